/-
  What stands below some laws' proofs, part 1: contracts of functions, by an evaluator.
-/
import Derived.Test.YtplfkocigmnpmaaK5
import Derived.Laws.RangeAny
import Derived.Sort.Row
import Derived.Sort.Grow
import Derived.Shelf.Slices.CompactS
import Derived.Shelf.Sort.Plain
import Derived.Test.YtplfkocigmnpmaaProg
import Derived.Lib.SlicesCompact
import Derived.Sort.Statements
import Derived.Maps.Own
import Derived.Shelf.Strings.OnBuilder
import Derived.Sort.Lot0
import Derived.Shelf.SlSortCmp.Whole1
import Derived.Ground.SlsfProg
import Derived.Shelf.SlSortCmp.NoneTotal
import Derived.Test.YtplfkocigmnpmaaRows
import Derived.ProofKit
import Derived.Deep.Slices
namespace Go.Proofs.Ytplfkocigmnpmaa
open Abs
def eqIntS.code : ACode := (.seq (.region false [s 4 (.mv (.const (.bool false)))]) (.seq (.seq (.region false [s 6 (.mv (t 0)), s 7 (.len false (t 6)), s 8 (.mv (t 1)), s 9 (.len false (t 8)), s 10 (.bin .neq (t 7) (t 9))]) (.cond (t 10) (.seq (.region false [s 4 (.mv (.const (.bool false)))]) .ret) .skip)) (.seq (.seq (.region false [s 5 (.mv (.const (.int .i64 0)))]) (.block 0 (.loop (.seq (.seq (.region false [s 11 (.mv (t 5)), s 12 (.mv (t 0)), s 13 (.len false (t 12)), s 14 (.bin .lss (t 11) (t 13))]) (.cond (t 14) .skip (.exit 0))) (.seq (.block 1 (.seq (.region true [s 17 (.mv (t 0)), s 18 (.mv (t 5)), s 19 (.iadr 1 (t 17) (t 18)), s 20 (.load false 1 (t 19)), s 21 (.mv (t 1)), s 22 (.mv (t 5)), s 23 (.iadr 1 (t 21) (t 22)), s 24 (.load false 1 (t 23)), s 25 (.bin .neq (t 20) (t 24))]) (.cond (t 25) (.seq (.region false [s 4 (.mv (.const (.bool false)))]) .ret) .skip))) (.region false [s 15 (.mv (t 5)), s 16 (.bin .add (t 15) (.const (.int .i64 1))), s 5 (.mv (t 16))])))))) (.seq (.region false [s 4 (.mv (.const (.bool true)))]) .ret))))
def eqIntS.keep : List Nat := [0, 1, 4, 5]
def eqIntS.res : List RRes := [.tmp 4]
theorem eqIntS.of {mo : Bool} {args : List AV} {r : AV} {frs : Fr} (hn : Nat.ble args.length Try.f34.ntmps = true) (h : aCode (Kn mo Try.prog) eqIntS.keep 0 eqIntS.code (doneK eqIntS.res r frs) ⟨argEnv 0 args, [], []⟩) : Abs.Ret mo Try.prog 34 args r frs :=
  Abs.Ret.of_ir Try.func34 rfl (by kernel_rfl) (Nat.le_of_ble_eq_true hn) (by kernel_rfl) (by kernel_rfl) h
abbrev eqIntS.Ret (args : List AV) (r : AV) (frs : Fr) : Prop := Abs.Ret true Try.prog 34 args r frs
def heldIntS.code : ACode := (.seq (.region false [s 4 (.mv (.const (.int .i64 0)))]) (.seq (.seq (.region false [s 5 (.mv (.const (.int .i64 0)))]) (.block 0 (.loop (.seq (.seq (.region false [s 6 (.mv (t 5)), s 7 (.mv (t 0)), s 8 (.len false (t 7)), s 9 (.bin .lss (t 6) (t 8))]) (.cond (t 9) .skip (.exit 0))) (.seq (.block 1 (.seq (.seq (.region false [s 12 (.mv (t 0)), s 13 (.mv (t 5)), s 14 (.iadr 1 (t 12) (t 13)), s 15 (.load false 1 (t 14)), s 16 (.mv (t 1)), s 17 (.bin .neq (t 15) (t 16))]) (.cond (t 17) (.seq (.region false [s 4 (.mv (.const (.int .i64 (-1))))]) .ret) .skip)) (.region false [s 18 (.mv (t 1)), s 19 (.bin .add (t 18) (.const (.int .i64 1))), s 1 (.mv (t 19))]))) (.region false [s 10 (.mv (t 5)), s 11 (.bin .add (t 10) (.const (.int .i64 1))), s 5 (.mv (t 11))])))))) (.seq (.region false [s 20 (.mv (t 1)), s 4 (.mv (t 20))]) .ret)))
def heldIntS.keep : List Nat := [0, 1, 4, 5]
def heldIntS.res : List RRes := [.tmp 4]
theorem heldIntS.ofS {mo : Bool} {args : List AV} {r : AV} (hr : isScalR r = true) (hn : Nat.ble args.length Try.f36.ntmps = true) (h : aCode (Kn mo Try.prog) heldIntS.keep 0 heldIntS.code (doneS heldIntS.res r) ⟨argEnv 0 args, [], []⟩) : Abs.Ret mo Try.prog 36 args r [] :=
  Abs.Ret.of_irS hr Try.func36 rfl (by kernel_rfl) (Nat.le_of_ble_eq_true hn) (by kernel_rfl) (by kernel_rfl) h
abbrev heldIntS.Ret (args : List AV) (r : AV) (frs : Fr) : Prop := Abs.Ret true Try.prog 36 args r frs
def markIntS.code : ACode := (.seq (.region false [s 4 (.mv (.const (.int .i64 0)))]) (.seq (.seq (.region false [s 5 (.mv (.const (.int .i64 0)))]) (.block 0 (.loop (.seq (.seq (.region false [s 6 (.mv (t 5)), s 7 (.mv (t 0)), s 8 (.len false (t 7)), s 9 (.bin .lss (t 6) (t 8))]) (.cond (t 9) .skip (.exit 0))) (.seq (.block 1 (.seq (.region false [s 12 (.mv (t 0)), s 13 (.mv (t 5)), s 14 (.mv (t 1)), s 15 (.iadr 1 (t 12) (t 13)), ⟨none, none, (.store 1 (t 15) (t 14))⟩]) (.region false [s 16 (.mv (t 1)), s 17 (.bin .add (t 16) (.const (.int .i64 1))), s 1 (.mv (t 17))]))) (.region false [s 10 (.mv (t 5)), s 11 (.bin .add (t 10) (.const (.int .i64 1))), s 5 (.mv (t 11))])))))) (.seq (.region false [s 18 (.mv (t 1)), s 4 (.mv (t 18))]) .ret)))
def markIntS.keep : List Nat := [0, 1, 4, 5]
def markIntS.res : List RRes := [.tmp 4]
theorem markIntS.ofT {mo : Bool} {b0 : List ABox} {x' : Tr} {args : List AV} {r : AV} (hr : isScalR r = true) (hn : Nat.ble args.length Try.f35.ntmps = true) (hx : nb x' = b0.length) (h : aCode (Kn mo Try.prog) markIntS.keep b0.length markIntS.code (doneT markIntS.res b0.length r (gb x' 0)) ⟨argEnv 0 args, b0, []⟩) : Abs.Turn mo Try.prog 35 b0 args r (gb x' 0) :=
  Abs.Turn.of_ir hr Try.func35 rfl (by kernel_rfl) (Nat.le_of_ble_eq_true hn) (by kernel_rfl) (by kernel_rfl) hx h
abbrev markIntS.Turn (b0 : List ABox) (args : List AV) (r : AV) (b1 : List ABox) : Prop := Abs.Turn true Try.prog 35 b0 args r b1
def szIntS.code : ACode := (.seq (.region false [s 4 (.mv (.const (.int .i64 0)))]) (.seq (.region false [s 5 (.mv (t 1)), s 6 (.mv (t 0)), s 7 (.len false (t 6)), s 8 (.bin .sub (t 5) (t 7)), s 1 (.mv (t 8))]) (.seq (.seq (.region false [s 9 (.mv (t 1)), s 10 (.bin .lss (t 9) (.const (.int .i64 0)))]) (.cond (t 10) (.seq (.region false [s 4 (.mv (.const (.int .i64 (-1))))]) .ret) .skip)) (.seq (.region false [s 11 (.mv (t 1)), s 4 (.mv (t 11))]) .ret))))
def szIntS.keep : List Nat := [0, 1, 4]
def szIntS.res : List RRes := [.tmp 4]
theorem szIntS.of {mo : Bool} {args : List AV} {r : AV} {frs : Fr} (hn : Nat.ble args.length Try.f73.ntmps = true) (h : aCode (Kn mo Try.prog) szIntS.keep 0 szIntS.code (doneK szIntS.res r frs) ⟨argEnv 0 args, [], []⟩) : Abs.Ret mo Try.prog 73 args r frs :=
  Abs.Ret.of_ir Try.func73 rfl (by kernel_rfl) (Nat.le_of_ble_eq_true hn) (by kernel_rfl) (by kernel_rfl) h
abbrev szIntS.Ret (args : List AV) (r : AV) (frs : Fr) : Prop := Abs.Ret true Try.prog 73 args r frs
def toIntS.code : ACode := (.seq (.region false [s 2 (.mv (.const (.slice none 0 0)))]) (.seq (.region false [s 5 (.mv (t 0)), s 6 (.len false (t 5)), s 7 (.make 3 [(.int .i64 (.ofNat 0))] 1 8 (t 6)), s 3 (.mv (t 7))]) (.seq (.seq (.region false [s 4 (.mv (.const (.int .i64 0)))]) (.block 0 (.loop (.seq (.seq (.region false [s 8 (.mv (t 4)), s 9 (.mv (t 0)), s 10 (.len false (t 9)), s 11 (.bin .lss (t 8) (t 10))]) (.cond (t 11) .skip (.exit 0))) (.seq (.block 1 (.region false [s 14 (.mv (t 3)), s 15 (.mv (t 4)), s 16 (.mv (t 0)), s 17 (.mv (t 4)), s 18 (.iadr 1 (t 16) (t 17)), s 19 (.load false 1 (t 18)), s 20 (.iadr 1 (t 14) (t 15)), ⟨none, none, (.store 1 (t 20) (t 19))⟩])) (.region false [s 12 (.mv (t 4)), s 13 (.bin .add (t 12) (.const (.int .i64 1))), s 4 (.mv (t 13))])))))) (.seq (.region false [s 21 (.mv (t 3)), s 2 (.mv (t 21))]) .ret))))
def toIntS.keep : List Nat := [0, 2, 3, 4]
def toIntS.res : List RRes := [.tmp 2]
theorem toIntS.of {mo : Bool} {args : List AV} {r : AV} {frs : Fr} (hn : Nat.ble args.length Try.f38.ntmps = true) (h : aCode (Kn mo Try.prog) toIntS.keep 0 toIntS.code (doneK toIntS.res r frs) ⟨argEnv 0 args, [], []⟩) : Abs.Ret mo Try.prog 38 args r frs :=
  Abs.Ret.of_ir Try.func38 rfl (by kernel_rfl) (Nat.le_of_ble_eq_true hn) (by kernel_rfl) (by kernel_rfl) h
abbrev toIntS.Own (args : List AV) (x : Tr) : Prop := Abs.Own true Try.prog 38 args x
abbrev toIntS.Ret (args : List AV) (r : AV) (frs : Fr) : Prop := Abs.Ret true Try.prog 38 args r frs
end Go.Proofs.Ytplfkocigmnpmaa
namespace Go.Proofs.Ytplfkocigmnpmaa
open Abs
def part (z : List AV) (xs : List (List AV)) (i : Nat) : List AV := (xs.take i).flatten ++ (List.replicate (xs.length - i) z).flatten
theorem setAt_mid {α : Type} : ∀ (x a b c : List α), b.length = x.length → setAt (a ++ b ++ c) a.length x = a ++ x ++ c
  | [], a, b, c, h => by cases b with
    | nil => rfl
    | cons _ _ => simp at h
  | y :: x, a, b, c, h => by
    cases b with
    | nil => simp at h
    | cons b0 b =>
      have h1 : (a ++ b0 :: b ++ c).set a.length y = (a ++ [y]) ++ b ++ c := by simp
      have h2 : a.length + 1 = (a ++ [y]).length := by simp
      rw [setAt, h1, h2, setAt_mid x (a ++ [y]) b c (by simpa using h)]
      simp
theorem part_set {z : List AV} {xs : List (List AV)} {i sz : Nat} (hz : z.length = sz) (hx : ∀ x ∈ xs, x.length = sz) {x : List AV} (hi : xs[i]? = some x) : setAt (part z xs i) (i * sz) x = part z xs (i + 1) := by
  have hlt := getElem?_lt hi
  have h1 : (xs.take i).flatten.length = i * sz := by rw [length_flatten' sz _ (fun x h => hx x (List.mem_of_mem_take h)), List.length_take]; congr 1; omega
  obtain ⟨k, hk⟩ : ∃ k, xs.length - i = k + 1 := ⟨xs.length - i - 1, by omega⟩
  have hk2 : xs.length - (i + 1) = k := by omega
  have h2 : part z xs i = (xs.take i).flatten ++ z ++ (List.replicate k z).flatten := by
    rw [part, hk, List.replicate_succ, List.flatten_cons, List.append_assoc]
  have h3 : xs.take (i + 1) = xs.take i ++ [x] := by rw [List.take_add_one, hi]; rfl
  rw [h2, ← h1, setAt_mid _ _ _ _ (by rw [hz, hx x (List.mem_of_getElem? hi)]), part, hk2, h3]
  simp
theorem part_made {z : List Value} {xs : List (List AV)} {sz m : Nat} (hz : z.length = sz) (hp : 0 < sz) (hm : m = xs.length * sz) : madeK z m = part (z.map constAV) xs 0 := by
  subst hm
  have h1 : (List.replicate xs.length (z.map constAV)).flatten.length = xs.length * sz := by rw [length_flatten' sz]; · simp
                                                                                             · intro x hx; rw [List.eq_of_mem_replicate hx]; simp [hz]
  apply List.ext_getElem?
  intro i
  by_cases hi : i < xs.length * sz
  · have hq : i / sz < xs.length := (Nat.div_lt_iff_lt_mul hp).2 hi
    have hr : i % sz < sz := Nat.mod_lt _ hp
    have hf := flatten_get sz (List.replicate xs.length (z.map constAV)) (i / sz) (i % sz) (z.map constAV) (constAV (z.getD (i % sz) undef)) (fun x hx => by rw [List.eq_of_mem_replicate hx]; simp [hz]) (by simp [hq]) (by simp [hz, hr, List.getD])
    rw [show i / sz * sz + i % sz = i by rw [Nat.mul_comm]; exact Nat.div_add_mod _ _] at hf
    simp only [part, List.take_zero, List.flatten_nil, List.nil_append, Nat.sub_zero]
    rw [hf, madeK]
    simp [hi, hz]
  · rw [List.getElem?_eq_none (by simp [madeK]; omega)]
    simp only [part, List.take_zero, List.flatten_nil, List.nil_append, Nat.sub_zero]
    rw [List.getElem?_eq_none (by rw [h1]; omega)]
theorem part_all (z : List AV) (xs : List (List AV)) : part z xs xs.length = xs.flatten := by simp [part]
theorem part_len {z : List AV} {xs : List (List AV)} {i sz : Nat} (hz : z.length = sz) (hx : ∀ x ∈ xs, x.length = sz) (hi : i ≤ xs.length) : (part z xs i).length = xs.length * sz := by
  rw [part, List.length_append, length_flatten' sz _ (fun x h => hx x (List.mem_of_mem_take h)), length_flatten' sz _ (fun x h => by rw [List.eq_of_mem_replicate h]; exact hz), List.length_take, List.length_replicate, ← Nat.add_mul]
  congr 1; omega
/-- what is left of a, or -1 -/
def left (a : Int) (n : Nat) : Int := if a - n < 0 then -1 else a - n
end Go.Proofs.Ytplfkocigmnpmaa
namespace Go.Proofs.Ytplfkocigmnpmaa
open Abs
def digs : Nat → Nat → Str → Str
  | 0, _, a => a
  | n + 1, k, a => if k = 0 then a else digs n (k / 10) (UInt8.ofNat (48 + k % 10) :: a)
@[irreducible] def markF (k : Nat) : Str := if k = 0 then [109, 48] else 109 :: digs k k []
def markL (n k : Nat) : List Str := (List.range n).map fun i => markF (k + i)
@[simp] theorem length_markL (n k : Nat) : (markL n k).length = n := by simp [markL]
end Go.Proofs.Ytplfkocigmnpmaa
namespace Go.Proofs.Ytplfkocigmnpmaa
open Abs
end Go.Proofs.Ytplfkocigmnpmaa
namespace Go.Proofs.Ytplfkocigmnpmaa
open Abs
end Go.Proofs.Ytplfkocigmnpmaa
namespace Go.Proofs.Ytplfkocigmnpmaa
namespace Abs
mutual
/-- how many cells are marked: of a cell of an element, of its cells, of a slice's elements -/
def c1 : Tr → Nat
  | .v _ => 1
  | .s _ => 1
  | .l _ _ xs => cnLL xs
  | .a _ => 0
  | .p _ => 0
def cnC : List Tr → Nat
  | [] => 0
  | x :: xs => c1 x + cnC xs
def cnLL : List (List Tr) → Nat
  | [] => 0
  | x :: xs => cnC x + cnLL xs
end
mutual
/-- of a value: the cells in its slices -/
def cn : Tr → Nat
  | .l _ _ xs => cnLL xs
  | .a fs => cnA fs
  | .p fs => cnA fs
  | .v _ => 0
  | .s _ => 0
def cnA : List Tr → Nat
  | [] => 0
  | x :: xs => cn x + cnA xs
end
mutual
def m1 : Tr → Nat → Tr
  | .v _, k => .v (.int .i64 k)
  | .s _, k => .s (markF k)
  | .l t sz xs, k => .l t sz (mkLL xs k)
  | .a fs, _ => .a fs
  | .p fs, _ => .p fs
def mkC : List Tr → Nat → List Tr
  | [], _ => []
  | x :: xs, k => m1 x k :: mkC xs (k + c1 x)
def mkLL : List (List Tr) → Nat → List (List Tr)
  | [], _ => []
  | x :: xs, k => mkC x k :: mkLL xs (k + cnC x)
end
mutual
def mk : Tr → Nat → Tr
  | .l t sz xs, k => .l t sz (mkLL xs k)
  | .a fs, k => .a (mkA fs k)
  | .p fs, k => .p (mkA fs k)
  | .v x, _ => .v x
  | .s x, _ => .s x
def mkA : List Tr → Nat → List Tr
  | [], _ => []
  | x :: xs, k => mk x k :: mkA xs (k + cn x)
end
theorem cnC_append : ∀ xs ys, cnC (xs ++ ys) = cnC xs + cnC ys
  | [], ys => by simp [cnC]
  | x :: xs, ys => by rw [List.cons_append, cnC, cnC_append xs, cnC, Nat.add_assoc]
theorem cnLL_flatten : ∀ xs, cnLL xs = cnC xs.flatten
  | [] => rfl
  | x :: xs => by rw [cnLL, List.flatten_cons, cnC_append, cnLL_flatten xs]
theorem mkC_append : ∀ xs ys k, mkC (xs ++ ys) k = mkC xs k ++ mkC ys (k + cnC xs)
  | [], ys, k => by simp [mkC, cnC]
  | x :: xs, ys, k => by rw [List.cons_append, mkC, mkC_append xs, mkC, cnC, List.cons_append, Nat.add_assoc]
theorem mkLL_flatten : ∀ xs k, (mkLL xs k).flatten = mkC xs.flatten k
  | [], _ => rfl
  | x :: xs, k => by rw [mkLL, List.flatten_cons, List.flatten_cons, mkC_append, mkLL_flatten xs]
theorem length_mkC : ∀ xs k, (mkC xs k).length = xs.length
  | [], _ => rfl
  | x :: xs, k => by rw [mkC, List.length_cons, length_mkC xs, List.length_cons]
theorem length_mkLL : ∀ xs k, (mkLL xs k).length = xs.length
  | [], _ => rfl
  | x :: xs, k => by rw [mkLL, List.length_cons, length_mkLL xs, List.length_cons]
mutual
theorem nb_m1 : ∀ x k, nb (m1 x k) = nb x
  | .v _, _ => rfl
  | .s _, _ => rfl
  | .l t sz xs, k => by rw [m1, nb, nb, nbLL_mk xs]
  | .a _, _ => rfl
  | .p _, _ => rfl
theorem nbL_mkC : ∀ xs k, nbL (mkC xs k) = nbL xs
  | [], _ => rfl
  | x :: xs, k => by rw [mkC, nbL, nbL, nbL_mkC xs, nb_m1 x]
theorem nbLL_mk : ∀ xs k, nbLL (mkLL xs k) = nbLL xs
  | [], _ => rfl
  | x :: xs, k => by rw [mkLL, nbLL, nbLL, nbL_mkC x, nbLL_mk xs]
end
mutual
theorem nb_mk : ∀ x k, nb (mk x k) = nb x
  | .l t sz xs, k => by rw [mk, nb, nb, nbLL_mk xs]
  | .a fs, k => by rw [mk, nb, nb, nbL_mkA fs]
  | .p fs, k => by rw [mk, nb, nb, nbL_mkA fs]
  | .v _, _ => rfl
  | .s _, _ => rfl
theorem nbL_mkA : ∀ xs k, nbL (mkA xs k) = nbL xs
  | [], _ => rfl
  | x :: xs, k => by rw [mkA, nbL, nbL, nb_mk x, nbL_mkA xs]
end
mutual
theorem gv_mk : ∀ x k n, gv (mk x k) n = gv x n
  | .l t sz xs, k, n => by rw [mk, gv, gv, length_mkLL]
  | .a fs, k, n => by rw [mk, gv, gv, gvL_mkA fs]
  | .p fs, k, n => by rw [mk, gv, gv, gvL_mkA fs]
  | .v _, _, _ => rfl
  | .s _, _, _ => rfl
theorem gvL_mkA : ∀ xs k n, gvL (mkA xs k) n = gvL xs n
  | [], _, _ => rfl
  | x :: xs, k, n => by rw [mkA, gvL, gvL, gv_mk x, gvL_mkA xs, nb_mk]
end
theorem mkLL_all {sz : Nat} : ∀ (xs : List (List Tr)) (k : Nat), ((mkLL xs k).all fun e => e.length == sz) = xs.all fun e => e.length == sz
  | [], _ => rfl
  | x :: xs, k => by rw [mkLL, List.all_cons, List.all_cons, mkLL_all xs, length_mkC]
mutual
theorem okT_m1 : ∀ x k, okT (m1 x k) = okT x
  | .v _, _ => rfl
  | .s _, _ => rfl
  | .l t sz xs, k => by rw [m1, okT, okT, mkLL_all, okTLL_mk xs]
  | .a _, _ => rfl
  | .p _, _ => rfl
theorem okTL_mkC : ∀ xs k, okTL (mkC xs k) = okTL xs
  | [], _ => rfl
  | x :: xs, k => by rw [mkC, okTL, okTL, okTL_mkC xs, okT_m1 x]
theorem okTLL_mk : ∀ xs k, okTLL (mkLL xs k) = okTLL xs
  | [], _ => rfl
  | x :: xs, k => by rw [mkLL, okTLL, okTLL, okTL_mkC x, okTLL_mk xs]
end
mutual
theorem okT_mk : ∀ x k, okT (mk x k) = okT x
  | .l t sz xs, k => by rw [mk, okT, okT, mkLL_all, okTLL_mk xs]
  | .a fs, k => by rw [mk, okT, okT, okTL_mkA fs]
  | .p fs, k => by rw [mk, okT, okT, okTL_mkA fs]
  | .v _, _ => rfl
  | .s _, _ => rfl
theorem okTL_mkA : ∀ xs k, okTL (mkA xs k) = okTL xs
  | [], _ => rfl
  | x :: xs, k => by rw [mkA, okTL, okTL, okT_mk x, okTL_mkA xs]
end
def st (cs : List Tr) (k p : Nat) : List Tr := mkC (cs.take p) k ++ cs.drop p
theorem st_zero (cs : List Tr) (k : Nat) : st cs k 0 = cs := rfl
theorem st_all (cs : List Tr) (k : Nat) {p : Nat} (h : p = cs.length) : st cs k p = mkC cs k := by subst h; simp [st]
theorem length_st (cs : List Tr) (k p : Nat) : (st cs k p).length = cs.length := by simp [st, length_mkC]; omega
theorem st_at {cs : List Tr} {p : Nat} {x : Tr} (k : Nat) (h : cs[p]? = some x) : st cs k p = mkC (cs.take p) k ++ x :: cs.drop (p + 1) := by
  obtain ⟨hp, rfl⟩ := List.getElem?_eq_some_iff.1 h
  rw [st, List.drop_eq_getElem_cons hp]
theorem st_succ {cs : List Tr} {p : Nat} {x : Tr} (k : Nat) (h : cs[p]? = some x) : st cs k (p + 1) = mkC (cs.take p) k ++ m1 x (k + cnC (cs.take p)) :: cs.drop (p + 1) := by
  rw [st, List.take_add_one, h, mkC_append, List.append_assoc]; rfl
theorem cn_succ {cs : List Tr} {p : Nat} {x : Tr} (h : cs[p]? = some x) : cnC (cs.take (p + 1)) = cnC (cs.take p) + c1 x := by
  rw [List.take_add_one, h, cnC_append]; rfl
theorem cn_take_le (cs : List Tr) (p : Nat) : cnC (cs.take p) ≤ cnC cs := by
  have := cnC_append (cs.take p) (cs.drop p)
  rw [List.take_append_drop] at this; omega
theorem length_take_lt {cs : List Tr} {p : Nat} {x : Tr} (h : cs[p]? = some x) (k : Nat) : (mkC (cs.take p) k).length = p := by
  have := getElem?_lt h
  rw [length_mkC, List.length_take]; omega
/-- a number or a text is marked -/
theorem gvL_st {cs : List Tr} {p : Nat} {x : Tr} (k n : Nat) (h : cs[p]? = some x) :
    gvL (st cs k (p + 1)) n = (gvL (st cs k p) n).set p (gv (m1 x (k + cnC (cs.take p))) (n + nbL (cs.take p))) := by
  have hl : (gvL (mkC (cs.take p) k) n).length = p := by rw [length_gvL, length_take_lt h]
  rw [st_succ k h, st_at k h, gvL_append, gvL_append, List.set_append_right _ _ (by omega), hl, Nat.sub_self]
  rw [gvL, gvL, List.set_cons_zero, nb_m1, nbL_mkC]
theorem gbL_st {cs : List Tr} {p : Nat} {x : Tr} (k n : Nat) (h : cs[p]? = some x) (hx : nb x = 0) : gbL (st cs k (p + 1)) n = gbL (st cs k p) n := by
  have e1 : ∀ m, gb x m = [] := fun m => List.eq_nil_of_length_eq_zero (by rw [length_gb, hx])
  have e2 : ∀ m j, gb (m1 x j) m = [] := fun m j => List.eq_nil_of_length_eq_zero (by rw [length_gb, nb_m1, hx])
  rw [st_succ k h, st_at k h, gbL_append, gbL_append, gbL, gbL, e1, e2, nb_m1]
/-- the cells of element i -/
theorem cell_at {α : Type} [Inhabited α] (q : α → List Tr) (sz : Nat) (hq : ∀ a, (q a).length = sz) {l : List α} {i j : Nat} {x : Tr} (hi : i < l.length) (hx : (q (l.getD i default))[j]? = some x) : (l.map q).flatten[i * sz + j]? = some x := by
  refine flatten_get sz (l.map q) i j (q (l.getD i default)) x (fun e he => ?_) ?_ hx
  · obtain ⟨a, _, rfl⟩ := List.mem_map.1 he; exact hq a
  · simp [List.getD, hi]
theorem flat_len {α : Type} (q : α → List Tr) (sz : Nat) (hq : ∀ a, (q a).length = sz) (l : List α) : (l.map q).flatten.length = l.length * sz := by
  rw [length_flatten' sz _ (fun e he => by obtain ⟨a, _, rfl⟩ := List.mem_map.1 he; exact hq a), List.length_map]
theorem gb_l (t sz : Nat) (xs : List (List Tr)) (n : Nat) : gb (.l t sz xs) n = .cells (.row t sz) (gvL xs.flatten (n + 1)) :: gbL xs.flatten (n + 1) := by rw [gb, gvLL_flatten, gbLL_flatten]
theorem gb_mk_l (t sz : Nat) (xs : List (List Tr)) (k n : Nat) : gb (mk (.l t sz xs) k) n = .cells (.row t sz) (gvL (mkC xs.flatten k) (n + 1)) :: gbL (mkC xs.flatten k) (n + 1) := by rw [mk, gb_l, mkLL_flatten]
theorem cn_l (t sz : Nat) (xs : List (List Tr)) : cn (.l t sz xs) = cnC xs.flatten := by rw [cn, cnLL_flatten]
theorem gb_l0 (t sz : Nat) (xs : List (List Tr)) : gb (.l t sz xs) 0 = .cells (.row t sz) (gvL xs.flatten 1) :: gbL xs.flatten 1 := gb_l t sz xs 0
theorem gb_mk_l0 (t sz : Nat) (xs : List (List Tr)) (k : Nat) : gb (mk (.l t sz xs) k) 0 = .cells (.row t sz) (gvL (mkC xs.flatten k) 1) :: gbL (mkC xs.flatten k) 1 := gb_mk_l t sz xs k 0
theorem nbL_st (cs : List Tr) (k p : Nat) : nbL (st cs k p) = nbL cs := by
  rw [st, nbL_append, nbL_mkC, ← nbL_append, List.take_append_drop]
theorem weak_st {nb : Nat} {e e' : Env} {c c' : ABox} {L L' : List ABox} {f f' : Fr} (he : agrees e e') (hc : c = c') (hL : L = L') (hf : f = f') (hn : nb ≤ (c' :: L').length) : Weak nb ⟨e, c :: L, f⟩ ⟨e', c' :: L', f'⟩ := by
  subst hc; subst hL; subst hf
  exact ⟨he, List.take_length, rfl, hn, Or.inl (Nat.le_refl _)⟩
theorem take_all {α : Type} {n : Nat} {l : List α} (h : l.length ≤ n) : l.take n = l := List.take_of_length_le h
theorem takeAV_one {n : Nat} {cs : List AV} {k : AV → Prop} (c : AV) (r : List AV) (h : cs = c :: r) (hk : k c) : takeAV false n cs k := by subst h; exact hk
theorem Sees0.cut {xs : List AV} {ys : List Tr} (h : xs = oldL ys) : Sees0 (.agg xs) (.agg (oldL ys)) := by subst h; exact Sees0.oldagg ys
/-- element i of marked ones -/
theorem mkLL_get : ∀ (xs : List (List Tr)) (k i : Nat) (x : List Tr), xs[i]? = some x → (mkLL xs k)[i]? = some (mkC x (k + cnLL (xs.take i)))
  | [], _, _, _, h => by simp at h
  | y :: xs, k, 0, x, h => by simp at h; subst h; simp [mkLL, cnLL]
  | y :: xs, k, i + 1, x, h => by
    have := mkLL_get xs (k + cnC y) i x (by simpa using h)
    rw [mkLL, List.getElem?_cons_succ, this, List.take_succ_cons, cnLL, Nat.add_assoc]
theorem cnLL_succ {xs : List (List Tr)} {i : Nat} {x : List Tr} (h : xs[i]? = some x) : cnLL (xs.take (i + 1)) = cnLL (xs.take i) + cnC x := by
  have aux : ∀ a b, cnLL (a ++ b) = cnLL a + cnLL b := fun a b => by rw [cnLL_flatten, cnLL_flatten, cnLL_flatten, List.flatten_append, cnC_append]
  rw [List.take_add_one, h, aux, Option.toList_some, cnLL, cnLL, Nat.add_zero]
theorem cnLL_take_le (xs : List (List Tr)) (i : Nat) : cnLL (xs.take i) ≤ cnLL xs := by
  have aux : ∀ a b, cnLL (a ++ b) = cnLL a + cnLL b := fun a b => by rw [cnLL_flatten, cnLL_flatten, cnLL_flatten, List.flatten_append, cnC_append]
  have := aux (xs.take i) (xs.drop i)
  rw [List.take_append_drop] at this; omega
def CnB {α : Type} (T : Ty α) (w : Nat) : Prop := ∀ a, cnC (T.q a) ≤ w * (1 + T.size a)
theorem CnB.str : CnB Ty.str 1 := fun a => by show 1 + 0 ≤ 1 * (1 + _); omega
theorem CnB.int : CnB Ty.int 1 := fun a => by show 1 + 0 ≤ 1 * (1 + _); omega
theorem CnB.bool : CnB Ty.bool 1 := fun a => by show 1 + 0 ≤ 1 * (1 + _); omega
theorem CnB.rows {α : Type} {T : Ty α} {w : Nat} (h : CnB T w) : ∀ l : List α, cnLL (l.map T.q) ≤ w * (l.length + listSize T l)
  | [] => Nat.zero_le _
  | a :: l => by
    have h1 := h.rows l
    have h2 := h a
    rw [List.map_cons, cnLL, List.length_cons, listSize]
    refine Nat.le_trans (Nat.add_le_add h2 h1) ?_
    rw [← Nat.mul_add]
    exact Nat.mul_le_mul_left _ (by omega)
theorem CnB.cellsL {α : Type} {T : Ty α} {w : Nat} (h : CnB T w) (t sz : Nat) (l : List α) : cnC [.l t sz (l.map T.q)] ≤ w * (1 + (l.length + listSize T l)) := by
  show cnLL (l.map T.q) + 0 ≤ _
  exact Nat.le_trans (h.rows l) (Nat.mul_le_mul_left _ (by omega))
theorem CnB.list {α : Type} {T : Ty α} {w : Nat} (h : CnB T w) (t : Nat) : CnB (Ty.list t T) w := fun l => h.cellsL t T.sz l
theorem CnB.plain {α : Type} {T : Ty α} {w : Nat} (h : CnB T w) (t : Nat) (h1 h2) : CnB (Ty.plain t T h1 h2) w := fun l => h.cellsL t T.sz l
theorem CnB.l {α : Type} {T : Ty α} {w : Nat} (h : CnB T w) (t sz : Nat) (l : List α) : cn (.l t sz (l.map T.q)) ≤ w * (l.length + listSize T l) := h.rows l
/-- the elements of a slice without slices of their own -/
theorem rowsP_tks {α : Type} (T : Ty α) (h : ∀ a, T.fr a = []) (e : ∀ a, T.tk a 0 = oldL (T.q a)) : ∀ l : List α, tks T l 0 = rows T l
  | [] => rfl
  | a :: l => by
    rw [tks, h, e]
    show _ :: tks T l (0 + 0) = _
    rw [Nat.add_zero, rowsP_tks T h e l]; rfl
end Abs
end Go.Proofs.Ytplfkocigmnpmaa
namespace Go.Proofs.Ytplfkocigmnpmaa
open Abs
end Go.Proofs.Ytplfkocigmnpmaa
namespace Go.Proofs.Ytplfkocigmnpmaa
namespace Abs
theorem FinalC.all {Φ : AV → List ABox → Fr → Prop} {r : AV} {b : List ABox} {f : Fr} (h : Lends b b) (hk : Φ r b f) : FinalC Φ r b f := ⟨b, h, hk⟩
theorem FinalC.allA {Φ : AV → List ABox → Fr → Prop} {r : AV} {b : List ABox} {f : Fr} (hk : Φ r b f) (h : Lends b b := by repeat' first | exact Lends.nil | refine Lends.map _ ?_ | refine Lends.lend _ _ (by first | exact hx.1 | exact hy.1 | exact noTk_old _ | (intro c hc; rw [List.mem_singleton.1 hc]; rfl) | (intro c hc; cases hc; done)) ?_) : FinalC Φ r b f := ⟨b, h, hk⟩
theorem Lent.weak {mo : Bool} {P : Program} {f : Nat} {b0 : List ABox} {args : List AV} {Φ : AV → List ABox → Fr → Prop} (h : Lent true P f b0 args Φ) : Lent mo P f b0 args Φ := by
  rw [Lent_eq] at *
  exact ⟨h.1, fun w F vs box0 q a b c d e g => (h.2 w F vs box0 q a b c d e g).mono (by rintro en w' ⟨v, F', box1, tok, frs, r, b1, h1, h2, h3, h4⟩; exact ⟨v, F', box1, tok, frs, r, b1, h1, h2, h3.weak, h4⟩)⟩
section
variable {mo : Bool} {P : Program}
end
end Abs
open Abs
end Go.Proofs.Ytplfkocigmnpmaa
namespace Go.Proofs.Ytplfkocigmnpmaa
open Abs
def cmpInt.code : ACode := (.seq (.region false [s 4 (.mv (.const (.int .i64 0)))]) (.seq (.region false [s 7 (.mv (t 0)), s 8 (.call 104 [(t 7)]), s 5 (.mv (t 8))]) (.seq (.region false [s 9 (.mv (t 1)), s 10 (.call 104 [(t 9)]), s 6 (.mv (t 10))]) (.seq (.seq (.region false [s 11 (.mv (t 5))]) (.cond (t 11) (.seq (.seq (.region false [s 12 (.mv (t 6))]) (.cond (t 12) (.seq (.region false [s 4 (.mv (.const (.int .i64 0)))]) .ret) .skip)) (.seq (.region false [s 4 (.mv (.const (.int .i64 (-1))))]) .ret)) .skip)) (.seq (.seq (.region false [s 13 (.mv (t 6))]) (.cond (t 13) (.seq (.region false [s 4 (.mv (.const (.int .i64 1)))]) .ret) .skip)) (.seq (.seq (.region false [s 14 (.mv (t 0)), s 15 (.mv (t 1)), s 16 (.bin .lss (t 14) (t 15))]) (.cond (t 16) (.seq (.region false [s 4 (.mv (.const (.int .i64 (-1))))]) .ret) .skip)) (.seq (.seq (.region false [s 17 (.mv (t 0)), s 18 (.mv (t 1)), s 19 (.bin .gtr (t 17) (t 18))]) (.cond (t 19) (.seq (.region false [s 4 (.mv (.const (.int .i64 1)))]) .ret) .skip)) (.seq (.region false [s 4 (.mv (.const (.int .i64 0)))]) .ret))))))))
def cmpInt.keep : List Nat := [0, 1, 4, 5, 6]
def cmpInt.res : List RRes := [.tmp 4]
theorem cmpInt.ofS {mo : Bool} {args : List AV} {r : AV} (hr : isScalR r = true) (hn : Nat.ble args.length Try.f80.ntmps = true) (h : aCode (Kn mo Try.prog) cmpInt.keep 0 cmpInt.code (doneS cmpInt.res r) ⟨argEnv 0 args, [], []⟩) : Abs.Ret mo Try.prog 80 args r [] :=
  Abs.Ret.of_irS hr Try.func80 rfl (by kernel_rfl) (Nat.le_of_ble_eq_true hn) (by kernel_rfl) (by kernel_rfl) h
abbrev cmpInt.Ret (args : List AV) (r : AV) (frs : Fr) : Prop := Abs.Ret true Try.prog 80 args r frs
def isNaNInt.code : ACode := (.seq (.region false [s 2 (.mv (.const (.bool false)))]) (.seq (.region false [s 3 (.mv (t 0)), s 4 (.mv (t 0)), s 5 (.bin .neq (t 3) (t 4)), s 2 (.mv (t 5))]) .ret))
def isNaNInt.keep : List Nat := [0, 2]
def isNaNInt.res : List RRes := [.tmp 2]
theorem isNaNInt.ofS {mo : Bool} {args : List AV} {r : AV} (hr : isScalR r = true) (hn : Nat.ble args.length Try.f104.ntmps = true) (h : aCode (Kn mo Try.prog) isNaNInt.keep 0 isNaNInt.code (doneS isNaNInt.res r) ⟨argEnv 0 args, [], []⟩) : Abs.Ret mo Try.prog 104 args r [] :=
  Abs.Ret.of_irS hr Try.func104 rfl (by kernel_rfl) (Nat.le_of_ble_eq_true hn) (by kernel_rfl) (by kernel_rfl) h
abbrev isNaNInt.Ret (args : List AV) (r : AV) (frs : Fr) : Prop := Abs.Ret true Try.prog 104 args r frs
end Go.Proofs.Ytplfkocigmnpmaa
namespace Go.Proofs.Ytplfkocigmnpmaa
open Abs
def letter (c : Int) : Bool := decide (97 ≤ c) && decide (c ≤ 122)
def digit (c : Int) : Bool := decide (48 ≤ c) && decide (c ≤ 57)
def alnum (c : UInt8) : Bool := letter c.toNat || digit c.toNat
def atomF (s : Str) : Bool := s.all alnum && (decide (1 ≤ (s.length : Int)) && decide ((s.length : Int) ≤ 8))
end Go.Proofs.Ytplfkocigmnpmaa
namespace Go.Proofs.Ytplfkocigmnpmaa
open Abs
def varF (x : Str) : Bool := decide (1 < (x.length : Int)) && ((x.getD 0 0).toNat : Int) == 63 && atomF (x.drop 1)
end Go.Proofs.Ytplfkocigmnpmaa
namespace Go.Proofs.Ytplfkocigmnpmaa
open Abs
theorem takeAV_one {n : Nat} {cs : List AV} {k : AV → Prop} (c : AV) (r : List AV) (h : cs = c :: r) (hk : k c) : takeAV false n cs k := by subst h; exact hk
end Go.Proofs.Ytplfkocigmnpmaa
namespace Go.Proofs.Ytplfkocigmnpmaa
open Abs
def sFalling.code : ACode := (.seq (.region false [s 2 (.mv (.const (.slice none 0 0)))]) (.seq (.region false [s 6 (.bslice 3 1 true []), s 3 (.mv (t 6))]) (.seq (.seq (.region false [s 4 (.mv (.const (.int .i64 0)))]) (.block 0 (.loop (.seq (.seq (.region false [s 7 (.mv (t 4)), s 8 (.mv (t 0)), s 9 (.len false (t 8)), s 10 (.bin .lss (t 7) (t 9))]) (.cond (t 10) .skip (.exit 0))) (.seq (.block 1 (.seq (.region false [s 13 (.mv (t 3)), s 14 (.len false (t 13)), s 5 (.mv (t 14))]) (.seq (.region false [s 15 (.mv (t 3)), s 16 (.mv (t 0)), s 17 (.mv (t 4)), s 18 (.iadr 1 (t 16) (t 17)), s 19 (.load false 1 (t 18)), s 20 (.bslice 3 1 false [(t 19)]), s 21 (.append 3 1 8 (t 15) (t 20)), s 3 (.mv (t 21))]) (.seq (.block 2 (.loop (.seq (.seq (.region true [s 22 (.mv (t 5)), s 23 (.bin .gtr (t 22) (.const (.int .i64 0))), s 24 (.mv (t 23)), g 24 true 25 (.mv (t 3)), g 24 true 26 (.mv (t 5)), g 24 true 27 (.bin .sub (t 26) (.const (.int .i64 1))), g 24 true 28 (.iadr 1 (t 25) (t 27)), g 24 true 29 (.load false 1 (t 28)), g 24 true 30 (.mv (t 0)), g 24 true 31 (.mv (t 4)), g 24 true 32 (.iadr 1 (t 30) (t 31)), g 24 true 33 (.load false 1 (t 32)), g 24 true 34 (.bin .lss (t 29) (t 33)), s 35 (.and (t 24) (t 34))]) (.cond (t 35) .skip (.exit 2))) (.block 3 (.seq (.region false [s 36 (.mv (t 3)), s 37 (.mv (t 5)), s 38 (.mv (t 3)), s 39 (.mv (t 5)), s 40 (.bin .sub (t 39) (.const (.int .i64 1))), s 41 (.iadr 1 (t 38) (t 40)), s 42 (.load false 1 (t 41)), s 43 (.iadr 1 (t 36) (t 37)), ⟨none, none, (.store 1 (t 43) (t 42))⟩]) (.region false [s 44 (.mv (t 5)), s 45 (.bin .sub (t 44) (.const (.int .i64 1))), s 5 (.mv (t 45))])))))) (.region false [s 46 (.mv (t 3)), s 47 (.mv (t 5)), s 48 (.mv (t 0)), s 49 (.mv (t 4)), s 50 (.iadr 1 (t 48) (t 49)), s 51 (.load false 1 (t 50)), s 52 (.iadr 1 (t 46) (t 47)), ⟨none, none, (.store 1 (t 52) (t 51))⟩]))))) (.region false [s 11 (.mv (t 4)), s 12 (.bin .add (t 11) (.const (.int .i64 1))), s 4 (.mv (t 12))])))))) (.seq (.region false [s 53 (.mv (t 3)), s 2 (.mv (t 53))]) .ret))))
def sFalling.keep : List Nat := [0, 2, 3, 4, 5]
def sFalling.res : List RRes := [.tmp 2]
theorem sFalling.of {mo : Bool} {args : List AV} {r : AV} {frs : Fr} (hn : Nat.ble args.length Try.f37.ntmps = true) (h : aCode (Kn mo Try.prog) sFalling.keep 0 sFalling.code (doneK sFalling.res r frs) ⟨argEnv 0 args, [], []⟩) : Abs.Ret mo Try.prog 37 args r frs :=
  Abs.Ret.of_ir Try.func37 rfl (by kernel_rfl) (Nat.le_of_ble_eq_true hn) (by kernel_rfl) (by kernel_rfl) h
abbrev sFalling.Own (args : List AV) (x : Tr) : Prop := Abs.Own true Try.prog 37 args x
def pFalling.code : ACode := (.seq (.region false [s 2 (.mv (.const (.slice none 0 0)))]) (.seq (.region false [s 4 (.mv (t 0)), s 5 (.call 53 [(t 4)]), s 3 (.mv (t 5))]) (.seq (.region false [s 6 (.mv (t 3)), s 7 (.call 54 [(t 6), (.func 55)])]) (.seq (.region false [s 8 (.mv (t 3)), s 2 (.mv (t 8))]) .ret))))
def pFalling.keep : List Nat := [0, 2, 3]
def pFalling.res : List RRes := [.tmp 2]
theorem pFalling.of {mo : Bool} {args : List AV} {r : AV} {frs : Fr} (hn : Nat.ble args.length Try.f13.ntmps = true) (h : aCode (Kn mo Try.prog) pFalling.keep 0 pFalling.code (doneK pFalling.res r frs) ⟨argEnv 0 args, [], []⟩) : Abs.Ret mo Try.prog 13 args r frs :=
  Abs.Ret.of_ir Try.func13 rfl (by kernel_rfl) (Nat.le_of_ble_eq_true hn) (by kernel_rfl) (by kernel_rfl) h
abbrev pFalling.Own (args : List AV) (x : Tr) : Prop := Abs.Own true Try.prog 13 args x
abbrev pFalling.Ret (args : List AV) (r : AV) (frs : Fr) : Prop := Abs.Ret true Try.prog 13 args r frs
def pgreaterFirst.code : ACode := (.seq (.region false [s 4 (.mv (.const (.int .i64 0)))]) (.seq (.region false [s 5 (.mv (t 1)), s 6 (.mv (t 0)), s 7 (.call 80 [(t 5), (t 6)]), s 4 (.mv (t 7))]) .ret))
def pgreaterFirst.keep : List Nat := [0, 1, 4]
def pgreaterFirst.res : List RRes := [.tmp 4]
theorem pgreaterFirst.ofS {mo : Bool} {args : List AV} {r : AV} (hr : isScalR r = true) (hn : Nat.ble args.length Try.f55.ntmps = true) (h : aCode (Kn mo Try.prog) pgreaterFirst.keep 0 pgreaterFirst.code (doneS pgreaterFirst.res r) ⟨argEnv 0 args, [], []⟩) : Abs.Ret mo Try.prog 55 args r [] :=
  Abs.Ret.of_irS hr Try.func55 rfl (by kernel_rfl) (Nat.le_of_ble_eq_true hn) (by kernel_rfl) (by kernel_rfl) h
abbrev pgreaterFirst.Ret (args : List AV) (r : AV) (frs : Fr) : Prop := Abs.Ret true Try.prog 55 args r frs
def slCloneI.code : ACode := (.seq (.region false [s 2 (.mv (.const (.slice none 0 0)))]) (.seq (.seq (.region false [s 3 (.mv (t 0)), s 4 (.nilq false (t 3))]) (.cond (t 4) (.seq (.region false [s 2 (.mv (.const (.slice none 0 0)))]) .ret) .skip)) (.seq (.region false [s 5 (.bslice 3 1 true []), s 6 (.mv (t 0)), s 7 (.append 3 1 8 (t 5) (t 6)), s 2 (.mv (t 7))]) .ret)))
def slCloneI.keep : List Nat := [0, 2]
def slCloneI.res : List RRes := [.tmp 2]
theorem slCloneI.of {mo : Bool} {args : List AV} {r : AV} {frs : Fr} (hn : Nat.ble args.length Try.f53.ntmps = true) (h : aCode (Kn mo Try.prog) slCloneI.keep 0 slCloneI.code (doneK slCloneI.res r frs) ⟨argEnv 0 args, [], []⟩) : Abs.Ret mo Try.prog 53 args r frs :=
  Abs.Ret.of_ir Try.func53 rfl (by kernel_rfl) (Nat.le_of_ble_eq_true hn) (by kernel_rfl) (by kernel_rfl) h
abbrev slCloneI.Own (args : List AV) (x : Tr) : Prop := Abs.Own true Try.prog 53 args x
abbrev slCloneI.Ret (args : List AV) (r : AV) (frs : Fr) : Prop := Abs.Ret true Try.prog 53 args r frs
abbrev slSortI.Ctx (b0 : List ABox) (args : List AV) (Φ : AV → List ABox → Prop) : Prop := Abs.Ctx true Try.prog 54 b0 args Φ
def DrawFalling.code : ACode := (.seq (.region false [s 2 (.mv (.const (.slice none 0 0)))]) (.seq (.region false [s 7 (.mv (t 0)), s 8 (.call 49 [(t 7)]), s 3 (.mv (t 8))]) (.seq (.region false [s 9 (.bslice 3 1 true []), s 4 (.mv (t 9))]) (.seq (.seq (.region false [s 10 (.mv (t 3)), s 11 (.call 50 [(t 10), (.const (.int .i64 6))]), s 5 (.mv (t 11))]) (.block 0 (.loop (.seq (.seq (.region false [s 12 (.mv (t 5)), s 13 (.bin .gtr (t 12) (.const (.int .i64 0)))]) (.cond (t 13) .skip (.exit 0))) (.seq (.block 1 (.seq (.region false [s 16 (.mv (t 3)), s 17 (.call 50 [(t 16), (.const (.int .i64 5))]), s 6 (.mv (t 17))]) (.seq (.seq (.region false [s 18 (.mv (t 3)), s 19 (.call 51 [(t 18), (.const (.int .i64 8))])]) (.cond (t 19) (.region false [s 20 (.mv (t 3)), s 21 (.call 52 [(t 20)]), s 6 (.mv (t 21))]) .skip)) (.region false [s 22 (.mv (t 4)), s 23 (.mv (t 6)), s 24 (.bslice 3 1 false [(t 23)]), s 25 (.append 3 1 8 (t 22) (t 24)), s 4 (.mv (t 25))])))) (.region false [s 14 (.mv (t 5)), s 15 (.bin .sub (t 14) (.const (.int .i64 1))), s 5 (.mv (t 15))])))))) (.seq (.region false [s 26 (.mv (t 4)), s 2 (.mv (t 26))]) .ret)))))
def DrawFalling.keep : List Nat := [0, 2, 3, 4, 5, 6]
def DrawFalling.res : List RRes := [.tmp 2]
theorem DrawFalling.of {mo : Bool} {args : List AV} {r : AV} {frs : Fr} (hn : Nat.ble args.length Try.f12.ntmps = true) (h : aCode (Kn mo Try.prog) DrawFalling.keep 0 DrawFalling.code (doneK DrawFalling.res r frs) ⟨argEnv 0 args, [], []⟩) : Abs.Ret mo Try.prog 12 args r frs :=
  Abs.Ret.of_ir Try.func12 rfl (by kernel_rfl) (Nat.le_of_ble_eq_true hn) (by kernel_rfl) (by kernel_rfl) h
theorem DrawFalling.ofS {mo : Bool} {args : List AV} {r : AV} (hr : isScalR r = true) (hn : Nat.ble args.length Try.f12.ntmps = true) (h : aCode (Kn mo Try.prog) DrawFalling.keep 0 DrawFalling.code (doneS DrawFalling.res r) ⟨argEnv 0 args, [], []⟩) : Abs.Ret mo Try.prog 12 args r [] :=
  Abs.Ret.of_irS hr Try.func12 rfl (by kernel_rfl) (Nat.le_of_ble_eq_true hn) (by kernel_rfl) (by kernel_rfl) h
theorem DrawFalling.ofL {mo : Bool} {b0 : List ABox} {args : List AV} {Φ : AV → List ABox → Fr → Prop} (hd : noDead b0 = true) (hn : Nat.ble args.length Try.f12.ntmps = true) (h : aCode (Kn mo Try.prog) DrawFalling.keep b0.length DrawFalling.code (doneL DrawFalling.res Φ) ⟨argEnv 0 args, b0, []⟩) : Abs.Lent mo Try.prog 12 b0 args Φ :=
  Abs.Lent.of_ir hd Try.func12 rfl (by kernel_rfl) (Nat.le_of_ble_eq_true hn) (by kernel_rfl) (by kernel_rfl) h
abbrev DrawFalling.Lent (b0 : List ABox) (args : List AV) (Φ : AV → List ABox → Fr → Prop) : Prop := Abs.Lent true Try.prog 12 b0 args Φ
abbrev DrawFalling.Own (args : List AV) (x : Tr) : Prop := Abs.Own true Try.prog 12 args x
abbrev DrawFalling.Turn (b0 : List ABox) (args : List AV) (r : AV) (b1 : List ABox) : Prop := Abs.Turn true Try.prog 12 b0 args r b1
abbrev DrawFalling.Ret (args : List AV) (r : AV) (frs : Fr) : Prop := Abs.Ret true Try.prog 12 args r frs
abbrev DrawFalling.RetN (args : List AV) (r : AV) (frs : Fr) : Prop := Abs.Ret false Try.prog 12 args r frs
abbrev DrawFalling.Ctx (b0 : List ABox) (args : List AV) (Φ : AV → List ABox → Prop) : Prop := Abs.Ctx true Try.prog 12 b0 args Φ
def lawFalling.code : ACode := (.seq (.region false [s 2 (.mv (.const (.bool false)))]) (.seq (.seq (.region false [s 9 (.mv (t 0)), s 10 (.call 11 [(t 9)])]) (.cond (t 10) (.seq (.region false [s 2 (.mv (.const (.bool true)))]) .ret) .skip)) (.seq (.region false [s 11 (.mv (t 0)), s 12 (.call 12 [(t 11)]), s 3 (.mv (t 12))]) (.seq (.region false [s 13 (.mv (t 3)), s 14 (.call 13 [(t 13)]), s 4 (.mv (t 14))]) (.seq (.seq (.region false [s 15 (.mv (t 4)), s 16 (.len false (t 15)), s 17 (.mv (t 3)), s 18 (.len false (t 17)), s 19 (.bin .neq (t 16) (t 18))]) (.cond (t 19) (.seq (.region false [s 2 (.mv (.const (.bool false)))]) .ret) .skip)) (.seq (.seq (.region false [s 5 (.mv (.const (.int .i64 0)))]) (.block 0 (.loop (.seq (.seq (.region false [s 20 (.mv (t 5)), s 21 (.mv (t 4)), s 22 (.len false (t 21)), s 23 (.bin .lss (t 20) (t 22))]) (.cond (t 23) .skip (.exit 0))) (.seq (.block 1 (.seq (.region false [s 6 (.mv (.const (.int .i64 0)))]) (.seq (.region false [s 7 (.mv (.const (.int .i64 0)))]) (.seq (.seq (.region false [s 8 (.mv (.const (.int .i64 0)))]) (.block 2 (.loop (.seq (.seq (.region false [s 26 (.mv (t 8)), s 27 (.mv (t 3)), s 28 (.len false (t 27)), s 29 (.bin .lss (t 26) (t 28))]) (.cond (t 29) .skip (.exit 2))) (.seq (.block 3 (.seq (.seq (.region true [s 32 (.mv (t 3)), s 33 (.mv (t 8)), s 34 (.iadr 1 (t 32) (t 33)), s 35 (.load false 1 (t 34)), s 36 (.mv (t 4)), s 37 (.mv (t 5)), s 38 (.iadr 1 (t 36) (t 37)), s 39 (.load false 1 (t 38)), s 40 (.bin .eql (t 35) (t 39))]) (.cond (t 40) (.region false [s 41 (.mv (t 6)), s 42 (.bin .add (t 41) (.const (.int .i64 1))), s 6 (.mv (t 42))]) .skip)) (.seq (.region true [s 43 (.mv (t 4)), s 44 (.mv (t 8)), s 45 (.iadr 1 (t 43) (t 44)), s 46 (.load false 1 (t 45)), s 47 (.mv (t 4)), s 48 (.mv (t 5)), s 49 (.iadr 1 (t 47) (t 48)), s 50 (.load false 1 (t 49)), s 51 (.bin .eql (t 46) (t 50))]) (.cond (t 51) (.region false [s 52 (.mv (t 7)), s 53 (.bin .add (t 52) (.const (.int .i64 1))), s 7 (.mv (t 53))]) .skip)))) (.region false [s 30 (.mv (t 8)), s 31 (.bin .add (t 30) (.const (.int .i64 1))), s 8 (.mv (t 31))])))))) (.seq (.region true [s 54 (.mv (t 6)), s 55 (.mv (t 7)), s 56 (.bin .neq (t 54) (t 55)), s 57 (.mv (t 56)), g 57 false 58 (.mv (t 5)), g 57 false 59 (.bin .gtr (t 58) (.const (.int .i64 0))), g 57 false 60 (.mv (t 59)), g 60 true 61 (.mv (t 4)), g 60 true 62 (.mv (t 5)), g 60 true 63 (.bin .sub (t 62) (.const (.int .i64 1))), g 60 true 64 (.iadr 1 (t 61) (t 63)), g 60 true 65 (.load false 1 (t 64)), g 60 true 66 (.mv (t 4)), g 60 true 67 (.mv (t 5)), g 60 true 68 (.iadr 1 (t 66) (t 67)), g 60 true 69 (.load false 1 (t 68)), g 60 true 70 (.bin .lss (t 65) (t 69)), g 57 false 71 (.and (t 60) (t 70)), s 72 (.or (t 57) (t 71))]) (.cond (t 72) (.seq (.region false [s 2 (.mv (.const (.bool false)))]) .ret) .skip)))))) (.region false [s 24 (.mv (t 5)), s 25 (.bin .add (t 24) (.const (.int .i64 1))), s 5 (.mv (t 25))])))))) (.seq (.region false [s 2 (.mv (.const (.bool true)))]) .ret)))))))
def lawFalling.keep : List Nat := [0, 2, 3, 4, 5, 6, 7, 8]
def lawFalling.res : List RRes := [.tmp 2]
theorem lawFalling.of {mo : Bool} {args : List AV} {r : AV} {frs : Fr} (hn : Nat.ble args.length Try.f3.ntmps = true) (h : aCode (Kn mo Try.prog) lawFalling.keep 0 lawFalling.code (doneK lawFalling.res r frs) ⟨argEnv 0 args, [], []⟩) : Abs.Ret mo Try.prog 3 args r frs :=
  Abs.Ret.of_ir Try.func3 rfl (by kernel_rfl) (Nat.le_of_ble_eq_true hn) (by kernel_rfl) (by kernel_rfl) h
abbrev lawFalling.RetN (args : List AV) (r : AV) (frs : Fr) : Prop := Abs.Ret false Try.prog 3 args r frs
end Go.Proofs.Ytplfkocigmnpmaa
namespace Go.Proofs.Ytplfkocigmnpmaa
namespace Abs
variable {α : Type}
theorem rows_snoc (T : Ty α) (l : List α) (a : α) : rows T l ++ [oldL (T.q a)] = rows T (l ++ [a]) := by simp [rows, oldLL_eq, oldL_eq]
theorem rows_cut (T : Ty α) (l : List α) : ∀ c ∈ rows T l, c.length = T.sz := oldLL_sz T.hq
theorem plain_ownA (T : Ty α) (hf : ∀ a, T.fr a = []) (e : ∀ a, T.tk a 0 = oldL (T.q a)) (F : Fr) (t k : Nat) (l : List α) (hk : F[k]? = some (t, T.sz, l.length)) {xs : List Tr} {cs : List AV} (h : OwnA F xs cs []) :
    OwnA F (.l t T.sz (l.map T.q) :: xs) (.list (some k) (rows T l) :: cs) [k] := by
  have h3 := own_plain T hf 0 F l
  have e2 : (l.map fun a => T.tk a 0) = rows T l := by rw [rows, oldLL_eq, List.map_map]; exact List.map_congr_left fun a _ => by rw [e, oldL_eq]; rfl
  rw [e2] at h3
  exact .l t T.sz _ k _ (by rw [hk, List.length_map]) (by simp) (fun e he => by obtain ⟨a, _, rfl⟩ := List.mem_map.1 he; exact T.hq a) (rows_cut T l) h3 h
theorem plain_own {mo : Bool} {P : Program} {f : Nat} {args : List AV} (T : Ty α) (hf : ∀ a, T.fr a = []) (e : ∀ a, T.tk a 0 = oldL (T.q a)) {F : Fr} (t k : Nat) {l : List α} (hk : F[k]? = some (t, T.sz, l.length)) (h : Ret mo P f args (.list (some k) (rows T l)) F) :
    Own mo P f args (.l t T.sz (l.map T.q)) := h.own [k] (plain_ownA T hf e F t k l hk .nil) (by simp)
end Abs
end Go.Proofs.Ytplfkocigmnpmaa
namespace Go.Proofs.Ytplfkocigmnpmaa
namespace Abs
variable {mo : Bool}
open Go.RowKit Go.Sort
theorem heap_putRow {α : Type} [Inhabited α] (enc : α → Value) (w : World) (blk off : Nat) (d : Array α) (c : Array Value) (t : TypeId) (z : Nat × Nat) (h : w.heap[blk]? = some (.cells c t z)) :
    (putRow enc w blk off d).heap[blk]? = some (.cells (putCells enc off d c) t z) := by
  simp [putRow, mapBlock, Array.getElem?_modify, h, onCells]
theorem heap_putRow_other {α : Type} [Inhabited α] (enc : α → Value) (w : World) (blk off : Nat) (d : Array α) (k : Nat) (h : k ≠ blk) : (putRow enc w blk off d).heap[k]? = w.heap[k]? := by
  simp [putRow, mapBlock, Array.getElem?_modify, Ne.symm h]
theorem heap_grow (w : World) (os : Array Obj) (k : Nat) (h : k < w.heap.size) : (grow w os).heap[k]? = w.heap[k]? := by
  simp [grow, Array.getElem?_append, h]
/-- a row that is lent has been turned; nothing else has -/
theorem gpost_row {w w' : World} {F : Nat → Nat} {box0 : List BId} {b0 : List ABox} {Φ : AV → List ABox → Prop} (hout : ∀ b, w.heap.size ≤ b → F b = 0) (hbl : box0.length = b0.length)
    (hbi : ∀ (j b c : Nat), box0[j]? = some (.blk b c) → b < w.heap.size ∧ (live b0 j → F b = 0))
    (hbj : ∀ (i j b c c' : Nat), box0[i]? = some (.blk b c) → box0[j]? = some (.blk b c') → live b0 i → live b0 j → i = j)
    (hB : BoxesOk w.heap.size w F [] [] box0 b0) {j blk cap : Nat} {k : RK} {cs cs' : List AV} (hj : box0[j]? = some (.blk blk cap)) (hl : b0[j]? = some (.cells k cs))
    (hdr : w.drawn ≤ w'.drawn) (hos : w'.os = w.os) (htape : w'.tape = w.tape) (hou : w'.output = w.output) (hsz : w.heap.size ≤ w'.heap.size) (hk : ∀ k, k < w.heap.size → k ≠ blk → w'.heap[k]? = w.heap[k]?)
    (hx : (∀ y v, Rep w.heap.size w F [] [] box0 y v → Rep w.heap.size w' F [] [] box0 y v) → BoxOk w.heap.size w' F [] [] box0 (.blk blk cap) (.cells k cs'))
    {e : Ending} {v : Value} {r : AV} (hv : e = .returned v) (hr : Rep w.heap.size w' F [] [] box0 r v) (hΦ : Φ r (b0.set j (.cells k cs'))) :
    ∃ (v : Value) (F' : Nat → Nat) (box1 : List BId) (r : AV) (b1 : List ABox), Φ r b1 ∧ e = .returned v ∧ Keep mo (mask b0 box0) w w' ∧ (∀ b, b < w.heap.size → F' b = F b) ∧ (∀ b, w'.heap.size ≤ b → F' b = 0) ∧
      (∀ (j : Nat) d, box0[j]? = some d → box1[j]? = some d) ∧ box1.length = b1.length ∧
      (∀ (j b c : Nat), box0.length ≤ j → box1[j]? = some (.blk b c) → (w.heap.size ≤ b ∨ ∃ i : Nat, live b0 i ∧ box0[i]? = some (.blk b c)) ∧ b < w'.heap.size) ∧
      (∀ (j b c : Nat), box1[j]? = some (.blk b c) → live b1 j → (box0.length ≤ j ∨ live b0 j) → F' b = 0) ∧
      (∀ (i j b c c' : Nat), box1[i]? = some (.blk b c) → box1[j]? = some (.blk b c') → live b1 i → live b1 j → (box0.length ≤ i ∨ live b0 i) → (box0.length ≤ j ∨ live b0 j) → i = j) ∧
      (∀ (j : Nat) d x, box1[j]? = some d → b1[j]? = some x → (box0.length ≤ j ∨ live b0 j) → BoxOk w.heap.size w' F' [] [] box1 d x) ∧ Rep w.heap.size w' F' [] [] box1 r v := by
  have hlive : live b0 j := fun h => by rw [hl] at h; cases h
  have hF0 := (hbi j blk cap hj).2 hlive
  have hjl := getElem?_lt hl
  have L : Later w F [] [] w' F [] [] := by
    refine ⟨fun b i hi => World.cell?_of_block (w := w) (hk b ?_ (fun h => by rw [h, hF0] at hi; omega)), fun _ => Nat.le_refl _, fun k t s n h => by simp at h⟩
    rcases Nat.lt_or_ge b w.heap.size with h | h
    · exact h
    · rw [hout b h] at hi; omega
  have ld : ∀ {i : Nat}, live (b0.set j (.cells k cs')) i ↔ live b0 i := live_set (by simp) hlive
  refine ⟨v, F, box0, r, _, hΦ, hv, ⟨fun _ => hdr, hos, htape, hou, hsz, fun q hq hn => hk q hq (fun h => ?_)⟩, fun _ _ => rfl, fun b hb => hout b (Nat.le_trans hsz hb), fun _ _ h => h, by simpa using hbl,
    fun i b c hi h => (by have := getElem?_lt h; omega), fun i b c hi hli _ => (hbi i b c hi).2 (ld.1 hli), fun i i' b c c' h1 h2 l1 l2 _ _ => hbj i i' b c c' h1 h2 (ld.1 l1) (ld.1 l2), fun i d x hd hx' hin => ?_, hr⟩
  · subst h
    refine hn j cap ?_
    clear hx hΦ hv hr ld L
    induction b0 generalizing box0 j with
    | nil => simp at hl
    | cons x b ih =>
      cases box0 with
      | nil => simp at hj
      | cons d box =>
        cases j with
        | zero =>
          simp at hl hj
          subst hl; subst hj
          simp [mask]
        | succ j =>
          have h1 : b[j]? = some (.cells k cs) := by simpa using hl
          have h2 : box[j]? = some (.blk q cap) := by simpa using hj
          have aux : ∀ (b : List ABox) (box : List BId) (j : Nat), b[j]? = some (.cells k cs) → box[j]? = some (.blk q cap) → (mask b box)[j]? = some (.blk q cap) := by
            intro b
            induction b with
            | nil => intro box j h; simp at h
            | cons x b ih =>
              intro box j h1 h2
              cases box with
              | nil => simp at h2
              | cons d box =>
                cases j with
                | zero => simp at h1 h2; subst h1; subst h2; simp [mask]
                | succ j => cases x <;> simpa [mask] using ih box j (by simpa using h1) (by simpa using h2)
          cases x <;> simpa [mask] using aux b box j h1 h2
  · rw [List.getElem?_set] at hx'
    by_cases hij : j = i
    · subst hij
      rw [if_pos rfl, if_pos hjl] at hx'
      rw [hj] at hd
      cases hx'; cases hd
      exact hx (fun y v h => h.later L (fun _ _ h => h))
    · rw [if_neg hij] at hx'
      refine (hB i d x hd hx').later L (fun _ _ h => h) (fun b c he hnd => ?_)
      subst he
      refine hk b (hbi i b c hd).1 (fun h => ?_)
      subst h
      exact hij (hbj j i b cap c hj hd hlive (fun h => hnd (by rw [hx'] at h; exact Option.some.inj h)))
/-- nothing has been turned -/
theorem gpost_same {w : World} {F : Nat → Nat} {box0 : List BId} {b0 : List ABox} {Φ : AV → List ABox → Prop} (hout : ∀ b, w.heap.size ≤ b → F b = 0) (hbl : box0.length = b0.length)
    (hbi : ∀ (j b c : Nat), box0[j]? = some (.blk b c) → b < w.heap.size ∧ (live b0 j → F b = 0))
    (hbj : ∀ (i j b c c' : Nat), box0[i]? = some (.blk b c) → box0[j]? = some (.blk b c') → live b0 i → live b0 j → i = j)
    (hB : BoxesOk w.heap.size w F [] [] box0 b0) {e : Ending} {v : Value} {r : AV} (hv : e = .returned v) (hr : Rep w.heap.size w F [] [] box0 r v) (hΦ : Φ r b0) :
    ∃ (v : Value) (F' : Nat → Nat) (box1 : List BId) (r : AV) (b1 : List ABox), Φ r b1 ∧ e = .returned v ∧ Keep mo (mask b0 box0) w w ∧ (∀ b, b < w.heap.size → F' b = F b) ∧ (∀ b, w.heap.size ≤ b → F' b = 0) ∧
      (∀ (j : Nat) d, box0[j]? = some d → box1[j]? = some d) ∧ box1.length = b1.length ∧
      (∀ (j b c : Nat), box0.length ≤ j → box1[j]? = some (.blk b c) → (w.heap.size ≤ b ∨ ∃ i : Nat, live b0 i ∧ box0[i]? = some (.blk b c)) ∧ b < w.heap.size) ∧
      (∀ (j b c : Nat), box1[j]? = some (.blk b c) → live b1 j → (box0.length ≤ j ∨ live b0 j) → F' b = 0) ∧
      (∀ (i j b c c' : Nat), box1[i]? = some (.blk b c) → box1[j]? = some (.blk b c') → live b1 i → live b1 j → (box0.length ≤ i ∨ live b0 i) → (box0.length ≤ j ∨ live b0 j) → i = j) ∧
      (∀ (j : Nat) d x, box1[j]? = some d → b1[j]? = some x → (box0.length ≤ j ∨ live b0 j) → BoxOk w.heap.size w F' [] [] box1 d x) ∧ Rep w.heap.size w F' [] [] box1 r v :=
  ⟨v, F, box0, r, b0, hΦ, hv, Keep.refl _ _, fun _ _ => rfl, hout, fun _ _ h => h, hbl, fun i b c hi h => (by have := getElem?_lt h; omega), fun i b c hi hl _ => (hbi i b c hi).2 hl,
    fun i j b c c' h1 h2 l1 l2 _ _ => hbj i j b c c' h1 h2 l1 l2, fun i d x hd hx _ => hB i d x hd hx, hr⟩
theorem putCells_zero {α : Type} [Inhabited α] (enc : α → Value) (d : Array α) (c : Array Value) (h : d.size ≤ c.size) : (putCells enc 0 d c).toList = d.toList.map enc ++ c.toList.drop d.size := by
  apply List.ext_getElem?
  intro i
  rw [Array.getElem?_toList, putCells, Array.getElem?_mapIdx, List.getElem?_append, List.length_map, Array.length_toList]
  by_cases hi : i < d.size
  · have hc : i < c.size := by omega
    simp [hi, hc, getElem!_pos d i hi]
  · rw [if_neg hi, List.getElem?_drop, show d.size + (i - d.size) = i by omega, Array.getElem?_toList]
    cases c[i]? with
    | none => rfl
    | some x => simp [hi]
theorem set_self {α : Type} {l : List α} {j : Nat} {x : α} (h : l[j]? = some x) : l.set j x = l := by
  apply List.ext_getElem?
  intro i
  rw [List.getElem?_set]
  split
  · rename_i hij; subst hij; rw [if_pos (getElem?_lt h), h]
  · rfl
end Abs
end Go.Proofs.Ytplfkocigmnpmaa
namespace Go.Proofs.Ytplfkocigmnpmaa
open Abs
section
variable {α : Type} {lt : α → α → Bool}
/-- put in at its place, unless it is there -/
def ins (lt : α → α → Bool) (s : α) : Bool → List α → List α
  | d, [] => if d then [] else [s]
  | true, x :: l => x :: ins lt s true l
  | false, x :: l => if lt x s then x :: ins lt s false l else if lt s x then s :: x :: ins lt s true l else x :: ins lt s true l
variable [Inhabited α] [DecidableEq α]
end
end Go.Proofs.Ytplfkocigmnpmaa
namespace Go.Proofs.Ytplfkocigmnpmaa
open Abs
/-- the variables among some texts -/
def vs (l : List Str) : List Str := l.filter varF
end Go.Proofs.Ytplfkocigmnpmaa
namespace Go.Proofs.Ytplfkocigmnpmaa
open Abs
theorem SeesB.strs {bx : List ABox} {j t : Nat} {l : List Str} (hj : bx[j]? = some (.cells (.row t 1) (strs l).flatten)) : SeesB bx (.bsl j l.length) (.list none (Abs.strs l)) := by
  refine SeesB.bsl hj (by simp) (strs_sz l) ?_
  rw [strs_eq]
  clear hj
  induction l with
  | nil => exact .nil
  | cons s l ih => exact .cons (SeesB.of0 (Sees0.str s)) ih
end Go.Proofs.Ytplfkocigmnpmaa
namespace Go.Proofs.Ytplfkocigmnpmaa
open Abs
theorem Abs.Need.finN {p q : Prop} (k : q) (h : p := by intros; (try simp only [length_strs] at *); (try simp only [length_rows] at *); (try simp only [length_oldLL, List.length_map, Int.toNat_natCast] at *); (try simp only [Bool.and_eq_true, decide_eq_true_eq] at *); omega) : Need p q := ⟨h, k⟩
theorem Abs.Ix.strsN {gd : Bool} {l : List Str} {i : Int} {sz : Nat} {k : List AV → Prop} (hs : 1 = sz) (hk : k [.str (l.getD i.toNat [])]) (h : gd = true → 0 ≤ i ∧ i < l.length := by intros; (try simp only [length_strs] at *); (try simp only [length_rows] at *); (try simp only [length_oldLL, List.length_map, Int.toNat_natCast] at *); (try simp only [Bool.and_eq_true, decide_eq_true_eq] at *); omega) : Ix gd (Abs.strs l) i sz k := Ix.strs hs h hk
theorem Abs.Ix.mapN {α : Type} [Inhabited α] {gd : Bool} {l : List α} {q : α → List Tr} {i : Int} {sz : Nat} {k : List AV → Prop} (hs : ∀ a, (q a).length = sz) (hk : k (oldL (q (l.getD i.toNat default)))) (h : gd = true → 0 ≤ i ∧ i < l.length := by intros; (try simp only [length_strs] at *); (try simp only [length_rows] at *); (try simp only [length_oldLL, List.length_map, Int.toNat_natCast] at *); (try simp only [Bool.and_eq_true, decide_eq_true_eq] at *); omega) : Ix gd (oldLL (l.map q)) i sz k := Ix.map hs h hk
theorem Abs.Fork.decY {c : Prop} [Decidable c] {p q : Prop} (k : p) (h : c := by (try simp only [length_oldLL, length_rows, length_strs, length_tks, List.length_map, Int.toNat_natCast]); omega) : Fork (decide c) p q := .decYes h k
theorem Abs.Fork.decN {c : Prop} [Decidable c] {p q : Prop} (k : q) (h : ¬ c := by (try simp only [length_oldLL, length_rows, length_strs, length_tks, List.length_map, Int.toNat_natCast]); omega) : Fork (decide c) p q := .decNo h k
theorem Abs.Fork.andY {a b : Prop} [Decidable a] [Decidable b] {p q : Prop} (k : p) (h : a ∧ b := by (try simp only [length_oldLL, length_rows, length_strs, length_tks, List.length_map, Int.toNat_natCast]); omega) : Fork (decide a && decide b) p q := .yes (by simp [h.1, h.2]) k
theorem Abs.Fork.andN {a b : Prop} [Decidable a] [Decidable b] {p q : Prop} (k : q) (h : ¬ (a ∧ b) := by (try simp only [length_oldLL, length_rows, length_strs, length_tks, List.length_map, Int.toNat_natCast]); omega) : Fork (decide a && decide b) p q := .no (by rw [← Bool.decide_and]; exact decide_eq_false h) k
section
variable {α : Type}
end
end Go.Proofs.Ytplfkocigmnpmaa
namespace Go.Proofs.Ytplfkocigmnpmaa
namespace Abs
open Go.RowKit
mutual
/-- the tree as a value, its tokens from n on: elements first -/
def tkT : Tr → Nat → AV
  | .v x, _ => .val x
  | .s x, _ => .str x
  | .l _ _ xs, n => .list (some (n + nbLL xs)) (tkLL xs n)
  | .a fs, n => .agg (tkL fs n)
  | .p fs, n => .tup (tkL fs n)
def tkL : List Tr → Nat → List AV
  | [], _ => []
  | x :: xs, n => tkT x n :: tkL xs (n + nb x)
def tkLL : List (List Tr) → Nat → List (List AV)
  | [], _ => []
  | x :: xs, n => tkL x n :: tkLL xs (n + nbL x)
end
mutual
def frT : Tr → Fr
  | .v _ => []
  | .s _ => []
  | .l t sz xs => frLL xs ++ [(t, sz, xs.length)]
  | .a fs => frL fs
  | .p fs => frL fs
def frL : List Tr → Fr
  | [] => []
  | x :: xs => frT x ++ frL xs
def frLL : List (List Tr) → Fr
  | [] => []
  | x :: xs => frL x ++ frLL xs
end
mutual
theorem length_frT : ∀ x : Tr, (frT x).length = nb x
  | .v _ => rfl
  | .s _ => rfl
  | .l _ _ xs => by rw [frT, nb, List.length_append, length_frLL xs]; rfl
  | .a fs => by rw [frT, nb, length_frL fs]
  | .p fs => by rw [frT, nb, length_frL fs]
theorem length_frL : ∀ x : List Tr, (frL x).length = nbL x
  | [] => rfl
  | x :: xs => by rw [frL, nbL, List.length_append, length_frT x, length_frL xs]
theorem length_frLL : ∀ x : List (List Tr), (frLL x).length = nbLL x
  | [] => rfl
  | x :: xs => by rw [frLL, nbLL, List.length_append, length_frL x, length_frLL xs]
end
theorem frL_append : ∀ xs ys, frL (xs ++ ys) = frL xs ++ frL ys
  | [], _ => rfl
  | x :: xs, ys => by rw [List.cons_append, frL, frL, frL_append xs, List.append_assoc]
theorem frLL_flatten : ∀ xs, frLL xs = frL xs.flatten
  | [] => rfl
  | x :: xs => by rw [frLL, List.flatten_cons, frL_append, frLL_flatten xs]
theorem tkL_append : ∀ xs ys n, tkL (xs ++ ys) n = tkL xs n ++ tkL ys (n + nbL xs)
  | [], ys, n => by rw [nbL]; rfl
  | x :: xs, ys, n => by rw [List.cons_append, tkL, tkL, tkL_append xs, nbL, Nat.add_assoc]; rfl
theorem tkLL_flatten : ∀ xs n, (tkLL xs n).flatten = tkL xs.flatten n
  | [], _ => rfl
  | x :: xs, n => by rw [tkLL, List.flatten_cons, List.flatten_cons, tkL_append, tkLL_flatten xs]
theorem length_tkL : ∀ xs n, (tkL xs n).length = xs.length
  | [], _ => rfl
  | x :: xs, n => by rw [tkL, List.length_cons, length_tkL xs]; rfl
theorem length_tkLL : ∀ xs n, (tkLL xs n).length = xs.length
  | [], _ => rfl
  | x :: xs, n => by rw [tkLL, List.length_cons, length_tkLL xs]; rfl
theorem tkLL_sz {sz : Nat} : ∀ xs n, (∀ e ∈ xs, e.length = sz) → ∀ e ∈ tkLL xs n, e.length = sz
  | [], _, _, e, he => by cases he
  | x :: xs, n, h, e, he => by
    rw [tkLL] at he
    rcases List.mem_cons.1 he with rfl | he
    · rw [length_tkL]; exact h x List.mem_cons_self
    · exact tkLL_sz xs _ (fun e he => h e (List.mem_cons_of_mem _ he)) e he
def TokOne (B : Nat) (w : World) (x : Tr) (v : Value) (d1 : List Nat) : Prop :=
  ∃ ids : List (Option Nat), ids.length = nb x ∧ (∀ (i b : Nat), ids[i]? = some (some b) → b ∈ d1) ∧ (d1.Nodup → ∀ (i j b : Nat), ids[i]? = some (some b) → ids[j]? = some (some b) → i = j) ∧
    ((∀ d ∈ d1, B ≤ d) → ∀ (n : Nat) (F : Nat → Nat) (tok : List (Option Nat)) (fr : Fr), (∀ (i : Nat) d, ids[i]? = some d → tok[n + i]? = some d) → (∀ (i : Nat) y, (frT x)[i]? = some y → fr[n + i]? = some y) →
      (∀ (i b t s m : Nat), ids[i]? = some (some b) → (frT x)[i]? = some (t, s, m) → F b = m * s) → ∀ box, Rep B w F tok fr box (tkT x n) v)
def TokAll (B : Nat) (w : World) (xs : List Tr) (vs : List Value) (d1 : List Nat) : Prop :=
  ∃ ids : List (Option Nat), ids.length = nbL xs ∧ (∀ (i b : Nat), ids[i]? = some (some b) → b ∈ d1) ∧ (d1.Nodup → ∀ (i j b : Nat), ids[i]? = some (some b) → ids[j]? = some (some b) → i = j) ∧
    ((∀ d ∈ d1, B ≤ d) → ∀ (n : Nat) (F : Nat → Nat) (tok : List (Option Nat)) (fr : Fr), (∀ (i : Nat) d, ids[i]? = some d → tok[n + i]? = some d) → (∀ (i : Nat) y, (frL xs)[i]? = some y → fr[n + i]? = some y) →
      (∀ (i b t s m : Nat), ids[i]? = some (some b) → (frL xs)[i]? = some (t, s, m) → F b = m * s) → ∀ (i : Nat) x v, (tkL xs n)[i]? = some x → vs[i]? = some v → ∀ box, Rep B w F tok fr box x v)
theorem TokAll.cons {B : Nat} {w : World} {x : Tr} {v : Value} {xs : List Tr} {vs : List Value} {d1 ds : List Nat} (h1 : TokOne B w x v d1) (h2 : TokAll B w xs vs ds) : TokAll B w (x :: xs) (v :: vs) (d1 ++ ds) := by
  obtain ⟨ids1, l1, m1, n1, r1⟩ := h1
  obtain ⟨ids2, l2, m2, n2, r2⟩ := h2
  refine ⟨ids1 ++ ids2, by rw [List.length_append, l1, l2, nbL], fun i b hi => ?_, fun hnd i j b hi hj => ?_, fun hB n F tok fr ht hf hF i y u hy hu box => ?_⟩
  · rw [List.getElem?_append] at hi
    split at hi
    · exact List.mem_append_left _ (m1 _ _ hi)
    · exact List.mem_append_right _ (m2 _ _ hi)
  · obtain ⟨e1, e2, e3⟩ := List.nodup_append.1 hnd
    rw [List.getElem?_append] at hi hj
    split at hi <;> split at hj
    · exact n1 e1 _ _ _ hi hj
    · exact absurd rfl (e3 b (m1 _ _ hi) b (m2 _ _ hj))
    · exact absurd rfl (e3 b (m1 _ _ hj) b (m2 _ _ hi))
    · have := n2 e2 _ _ _ hi hj; omega
  · have hfl : (frT x).length = ids1.length := by rw [length_frT, l1]
    cases i with
    | zero =>
      rw [tkL] at hy
      simp only [List.getElem?_cons_zero, Option.some.injEq] at hy hu
      subst hy; subst hu
      refine r1 (fun d hd => hB d (List.mem_append_left _ hd)) n F tok fr (fun i d hi => ht i d (by rw [List.getElem?_append_left (getElem?_lt hi)]; exact hi)) (fun i y hi => hf i y (by rw [frL, List.getElem?_append_left (getElem?_lt hi)]; exact hi)) (fun i b t s m hi hm => hF i b t s m ?_ ?_) box
      · rw [List.getElem?_append_left (getElem?_lt hi)]; exact hi
      · rw [frL, List.getElem?_append_left (getElem?_lt hm)]; exact hm
    | succ i =>
      rw [tkL] at hy
      refine r2 (fun d hd => hB d (List.mem_append_right _ hd)) (n + nb x) F tok fr (fun i d hi => ?_) (fun i y hi => ?_) (fun i b t s m hi hm => ?_) i y u (by simpa using hy) (by simpa using hu) box
      · rw [Nat.add_assoc]; refine ht (nb x + i) d ?_
        rw [List.getElem?_append_right (by omega), l1, Nat.add_sub_cancel_left]; exact hi
      · rw [Nat.add_assoc]; refine hf (nb x + i) y ?_
        rw [frL, List.getElem?_append_right (by rw [length_frT]; omega), length_frT, Nat.add_sub_cancel_left]; exact hi
      · refine hF (nb x + i) b t s m ?_ ?_
        · rw [List.getElem?_append_right (by omega), l1, Nat.add_sub_cancel_left]; exact hi
        · rw [frL, List.getElem?_append_right (by rw [length_frT]; omega), length_frT, Nat.add_sub_cancel_left]; exact hm
theorem TokOne.flat {B : Nat} {w : World} {x : Tr} {v : Value} (h0 : nb x = 0) (h : ∀ n F tok fr box, Rep B w F tok fr box (tkT x n) v) : TokOne B w x v [] :=
  ⟨[], by rw [h0]; rfl, by simp, by simp, fun _ n F tok fr _ _ _ box => h n F tok fr box⟩
theorem OwnL.toks {B : Nat} {w : World} {xs : List Tr} {vs : List Value} {ds : List Nat} (h : OwnL w xs vs ds) : TokAll B w xs vs ds := by
  induction h with
  | nil => exact ⟨[], rfl, by simp, by simp, fun _ n F tok fr _ _ _ i x v hx => by simp [tkL] at hx⟩
  | v x hp _ ih => exact TokAll.cons (d1 := []) (.flat rfl fun _ _ _ _ _ => .val _) ih
  | s x _ ih => exact TokAll.cons (d1 := []) (.flat rfl fun _ _ _ _ _ => .str _) ih
  | none t sz _ ih =>
    refine TokAll.cons (d1 := []) ⟨[Option.none], rfl, fun i b hi => ?_, fun _ i j b hi hj => ?_, fun _ n F tok fr ht hf _ box => ?_⟩ ih
    · cases i <;> simp at hi
    · cases i <;> simp at hi
    · refine .list (some (n + 0)) [] Option.none 0 sz 0 0 (fun _ _ => undef) (Nat.le_refl _) (fun h => absurd rfl h) (by simp) (fun h => absurd rfl h) (by simp) (by simp) (fun k hk => ?_)
      cases hk
      exact ⟨t, sz, 0, hf 0 _ rfl, Nat.le_refl _, fun _ => ⟨rfl, ⟨[], by simp, Or.inl ⟨rfl, rfl⟩⟩, ht 0 _ rfl, fun b hb => by cases hb⟩⟩
  | l t sz es b cap c us hb hc hl hm hs hu h1 he _ ih1 ih2 =>
    refine TokAll.cons (d1 := b :: _) ?_ ih2
    obtain ⟨ids, l1, m1, n1, r1⟩ := ih1
    rw [← nbLL_flatten] at l1
    have last : ∀ {i : Nat} {d : Option Nat}, (ids ++ [some b])[i]? = some d → ids[i]? = some d ∨ (i = ids.length ∧ d = some b) := fun {i d} hi => by
      rw [List.getElem?_append] at hi
      split at hi
      · exact .inl hi
      · rw [List.getElem?_singleton] at hi
        split at hi
        · cases hi; exact .inr ⟨by omega, rfl⟩
        · cases hi
    refine ⟨ids ++ [some b], by rw [List.length_append, l1, nb]; rfl, fun i b' hi => ?_, fun hnd i j b' hi hj => ?_, fun hB n F tok fr ht hf hF box => ?_⟩
    · rcases last hi with hi | ⟨_, hi⟩
      · exact List.mem_cons_of_mem _ (m1 _ _ hi)
      · cases hi; exact List.mem_cons_self
    · obtain ⟨e1, e2⟩ := List.nodup_cons.1 hnd
      rcases last hi with hi | ⟨hi, hi'⟩ <;> rcases last hj with hj | ⟨hj, hj'⟩
      · exact n1 e2 _ _ _ hi hj
      · cases hj'; exact absurd (m1 _ _ hi) e1
      · cases hi'; exact absurd (m1 _ _ hj) e1
      · omega
    · have hlast : (frT (.l t sz es))[nbLL es]? = some (t, sz, es.length) := by
        rw [frT, List.getElem?_append_right (by rw [length_frLL]; omega), length_frLL, Nat.sub_self]; rfl
      have hFb : F b = es.length * sz := hF (nbLL es) b t sz es.length (by rw [List.getElem?_append_right (by omega), l1, Nat.sub_self]; rfl) hlast
      have hin := r1 (fun d hd => hB d (List.mem_cons_of_mem _ hd)) n F tok fr (fun i d hi => ht i d (by rw [List.getElem?_append_left (getElem?_lt hi)]; exact hi))
        (fun i y hi => hf i y (by rw [frT, frLL_flatten, List.getElem?_append_left (getElem?_lt hi)]; exact hi))
        (fun i b' t' s' m' hi hm' => hF i b' t' s' m' (by rw [List.getElem?_append_left (getElem?_lt hi)]; exact hi) (by rw [frT, frLL_flatten, List.getElem?_append_left (getElem?_lt hm')]; exact hm'))
      have hlen : (tkLL es n).length = es.length := length_tkLL es n
      have hsz : ∀ e ∈ tkLL es n, e.length = sz := tkLL_sz es n hs
      have hcs : es.length * sz ≤ c.size := by rw [hc]; exact Nat.mul_le_mul_right _ hl
      have hul : us.length = es.length * sz := by rw [← hu]; simp; omega
      have key : ∀ (i : Nat) e (j : Nat) y, (tkLL es n)[i]? = some e → e[j]? = some y → i * sz + j < c.size ∧ us[i * sz + j]? = some (c.getD (i * sz + j) undef) ∧ Rep B w F tok fr [] y (c.getD (i * sz + j) undef) := fun i e j y hi hj => by
        have hf := flatten_get sz (tkLL es n) i j e y hsz hi hj
        rw [tkLL_flatten] at hf
        have hlt : i * sz + j < us.length := by
          have := getElem?_lt hf
          rw [length_tkL] at this
          rw [← he.length]; exact this
        obtain ⟨g1, g2⟩ := getD_take hu hlt
        exact ⟨g2, g1, hin _ y _ hf g1 []⟩
      show Rep B w F tok fr box (.list (some (n + nbLL es)) (tkLL es n)) (.slice (some ⟨b, 0, Option.none⟩) es.length cap)
      rw [← hlen]
      refine .list (some (n + nbLL es)) (tkLL es n) _ cap sz b 0 (fun i j => c.getD (i * sz + j) undef) (by omega) (fun _ => rfl) hsz (fun _ => ?_) (fun i e j y hi hj => ?_) (fun i e j y hi hj => (key i e j y hi hj).2.2) (fun k hk => ?_)
      · rw [hFb, hlen, Nat.zero_add]; exact Nat.le_refl _
      · obtain ⟨k1, k2, _⟩ := key i e j y hi hj
        exact ⟨by rw [Nat.zero_add]; simp [World.cell?, hb, k1, Array.getD], h1 _ (List.mem_of_getElem? k2)⟩
      · cases hk
        rw [hlen]
        refine ⟨t, sz, es.length, hf _ _ hlast, Nat.le_refl _, fun _ => ⟨rfl, ⟨us, hul, Or.inr ⟨b, cap, c, rfl, hB b List.mem_cons_self, hb, hl, hm, hc, hu⟩⟩, ?_, fun b' hb' => by cases hb'; exact hFb⟩⟩
        exact ht (nbLL es) _ (by rw [List.getElem?_append_right (by omega), l1, Nat.sub_self]; rfl)
  | a fs us h1 he _ ih1 ih2 =>
    refine TokAll.cons ?_ ih2
    obtain ⟨ids, l1, m1, n1, r1⟩ := ih1
    refine ⟨ids, by rw [l1, nb], m1, n1, fun hB n F tok fr ht hf hF box => ?_⟩
    have hin := r1 hB n F tok fr ht (by rw [frT] at hf; exact hf) (by rw [frT] at hF; exact hF)
    have hl := he.length
    have hg : ∀ i, i < us.size → us.toList[i]? = some (us.getD i undef) := fun i hi => by simp [Array.getD, hi]
    rw [tkT]
    refine .agg _ us (by rw [length_tkL]; simpa using hl) (fun i hi => h1 _ (List.mem_of_getElem? (hg i hi))) (fun i c hc => ?_)
    have := getElem?_lt hc
    rw [length_tkL] at this
    exact hin i c _ hc (hg i (by simp at hl; omega)) box
  | p fs us he _ ih1 ih2 =>
    refine TokAll.cons ?_ ih2
    obtain ⟨ids, l1, m1, n1, r1⟩ := ih1
    refine ⟨ids, by rw [l1, nb], m1, n1, fun hB n F tok fr ht hf hF box => ?_⟩
    have hin := r1 hB n F tok fr ht (by rw [frT] at hf; exact hf) (by rw [frT] at hF; exact hF)
    have hl := he.length
    have hg : ∀ i, i < us.size → us.toList[i]? = some (us.getD i undef) := fun i hi => by simp [Array.getD, hi]
    rw [tkT]
    refine .tup _ us (by rw [length_tkL]; simpa using hl) (fun i c hc => ?_)
    have := getElem?_lt hc
    rw [length_tkL] at this
    exact hin i c _ hc (hg i (by simp at hl; omega)) box
variable {mo : Bool}
theorem ORet.ret {P : Program} {f : Nat} {args : List AV} {x : Tr} (h : ORet mo P f args x) : ARet mo P f args (tkT x 0) (frT x) := by
  refine ⟨h.1, fun w F vs hcond hout hargs => (h.2 w F vs hcond hout hargs).mono ?_⟩
  rintro e w' ⟨v, ds, rfl, hb, hown, hnd, hds⟩
  obtain ⟨ids, l1, m1, n1, r1⟩ := hown.toks (B := w.heap.size)
  have hfl : frL [x] = frT x := by rw [frL, frL, List.append_nil]
  rw [show nbL [x] = nb x by rw [nbL, nbL, Nat.add_zero]] at l1
  -- what is known of a block's length
  let G : Nat → Option (Option Nat × (Nat × Nat × Nat)) := fun b => (ids.zip (frT x)).find? fun p => p.1 == some b
  have hG : ∀ b p, G b = some p → b ∈ ds := fun b p hp => by
    have h1 := List.find?_some hp
    have h2 := List.mem_of_find?_eq_some hp
    obtain ⟨i, hi⟩ := List.getElem?_of_mem (List.of_mem_zip h2).1
    rw [beq_iff_eq] at h1
    exact m1 i b (by rw [hi, h1])
  refine ⟨v, fun b => match G b with | some p => p.2.2.2 * p.2.2.1 | none => F b, ids, [], rfl, hb, fun b hlt => ?_, fun b hge => ?_, by rw [l1, length_frT], fun k b hk => hds b (m1 k b hk), fun k l b hk hl => n1 hnd k l b hk hl, ?_⟩
  · cases hg : G b with
    | none => simp only [hg]
    | some p => have := (hds b (hG b p hg)).1; omega
  · cases hg : G b with
    | none => simp only [hg]; exact hout b (Nat.le_trans hb.size hge)
    | some p => have := (hds b (hG b p hg)).2; omega
  · refine r1 (fun d hd => (hds d hd).1) 0 _ ids (frT x) (fun i d hi => by rw [Nat.zero_add]; exact hi) (fun i y hi => by rw [Nat.zero_add, ← hfl]; exact hi) (fun i b t s m hi hm => ?_) 0 _ v (by rw [tkL]; rfl) rfl []
    rw [hfl] at hm
    have hz : (ids.zip (frT x))[i]? = some (some b, (t, s, m)) := by rw [List.getElem?_zip_eq_some]; exact ⟨hi, hm⟩
    cases hg : G b with
    | none =>
      have := List.find?_eq_none.1 hg _ (List.mem_of_getElem? hz)
      simp at this
    | some p =>
      have h1 := List.find?_some hg
      obtain ⟨j, hj⟩ := List.getElem?_of_mem (List.mem_of_find?_eq_some hg)
      rw [beq_iff_eq] at h1
      obtain ⟨j1, j2⟩ := List.getElem?_zip_eq_some.1 hj
      rw [h1] at j1
      have := n1 hnd i j b hi j1
      subst this
      rw [hm] at j2
      simp only [hg]
      rw [← Option.some.inj j2]
theorem Own.ret {P : Program} {f : Nat} {args : List AV} {x : Tr} (h : Own mo P f args x) : Ret mo P f args (tkT x 0) (frT x) := by
  rw [Own_eq] at h; rw [Ret_eq]; exact h.ret
/-- a type whose values have their tokens as their trees have -/
def Canon {α : Type} (T : Ty α) : Prop := ∀ a, (∀ n, T.tk a n = tkL (T.q a) n) ∧ T.fr a = frL (T.q a)
mutual
theorem tkT_old : ∀ (x : Tr) (n : Nat), nb x = 0 → tkT x n = old x
  | .v _, _, _ => rfl
  | .s _, _, _ => rfl
  | .l _ _ xs, _, h => by rw [nb] at h; omega
  | .a fs, n, h => by rw [nb] at h; rw [tkT, old, tkL_old fs n h]
  | .p fs, n, h => by rw [nb] at h; rw [tkT, old, tkL_old fs n h]
theorem tkL_old : ∀ (x : List Tr) (n : Nat), nbL x = 0 → tkL x n = oldL x
  | [], _, _ => rfl
  | x :: xs, n, h => by rw [nbL] at h; rw [tkL, oldL, tkT_old x n (by omega), tkL_old xs _ (by omega)]
end
theorem tkLL_old : ∀ (x : List (List Tr)) (n : Nat), nbLL x = 0 → tkLL x n = oldLL x
  | [], _, _ => rfl
  | x :: xs, n, h => by rw [nbLL] at h; rw [tkLL, oldLL, tkL_old x n (by omega), tkLL_old xs _ (by omega)]
theorem Canon.fr {α : Type} {T : Ty α} (h : Canon T) (a : α) : (T.fr a).length = nbL (T.q a) := by rw [(h a).2, length_frL]
theorem Canon.str : Canon Ty.str := fun _ => ⟨fun _ => rfl, rfl⟩
theorem Canon.tks {α : Type} {T : Ty α} (h : Canon T) : ∀ (l : List α) (n : Nat), Abs.tks T l n = tkLL (l.map T.q) n
  | [], _ => rfl
  | a :: l, n => by rw [Abs.tks, List.map_cons, tkLL, (h a).1, h.fr, h.tks l]
theorem Canon.frs {α : Type} {T : Ty α} (h : Canon T) : ∀ (l : List α), Abs.frs T l = frLL (l.map T.q)
  | [] => rfl
  | a :: l => by
    rw [List.map_cons, frLL, ← h.frs l, ← (h a).2]; rfl
theorem Canon.list {α : Type} {T : Ty α} (t : Nat) (h : Canon T) : Canon (Ty.list t T) := fun l => by
  have hf := h.frs l
  refine ⟨fun n => ?_, ?_⟩
  · show [AV.list (some (n + (Abs.frs T l).length)) (Abs.tks T l n)] = tkL [.l t T.sz (l.map T.q)] n
    rw [tkL, tkL, tkT, h.tks, hf, length_frLL]
  · show Abs.frs T l ++ [(t, T.sz, l.length)] = frL [.l t T.sz (l.map T.q)]
    rw [frL, frL, frT, hf, List.append_nil, List.length_map]
theorem Canon.plain {α : Type} {T : Ty α} (t : Nat) (h : ∀ a, T.fr a = []) (e : ∀ a, T.tk a 0 = oldL (T.q a)) (hc : Canon T) : Canon (Ty.plain t T h e) := fun l => by
  have h0 : nbLL (l.map T.q) = 0 := by
    induction l with
    | nil => rfl
    | cons a l ih => rw [List.map_cons, nbLL, ih, ← hc.fr a, h]; rfl
  have hf : frLL (l.map T.q) = [] := List.eq_nil_of_length_eq_zero (by rw [length_frLL, h0])
  refine ⟨fun n => ?_, ?_⟩
  · show [AV.list (some n) (oldLL (l.map T.q))] = tkL [.l t T.sz (l.map T.q)] n
    rw [tkL, tkL, tkT, h0, tkLL_old _ _ h0]; rfl
  · show [(t, T.sz, l.length)] = frL [.l t T.sz (l.map T.q)]
    rw [frL, frL, frT, hf, List.length_map]; rfl
theorem Canon.ret {α : Type} {T : Ty α} (hc : Canon T) {P : Program} {f : Nat} {args : List AV} {a : α} {x : Tr} {r : AV} (hx : T.q a = [x]) (hr : T.tk a 0 = [r]) (h : Own mo P f args x) : Ret mo P f args r (T.fr a) := by
  have h1 := h.ret
  obtain ⟨c1, c2⟩ := hc a
  have e1 := c1 0
  rw [hr, hx, tkL, tkL] at e1
  rw [hx, frL, frL, List.append_nil] at c2
  rw [(List.cons.inj e1).1, c2]; exact h1
end Abs
end Go.Proofs.Ytplfkocigmnpmaa
namespace Go.Proofs.Ytplfkocigmnpmaa
namespace Abs
variable {α : Type}
theorem OwnA.mono {F F' : Fr} {xs : List Tr} {cs : List AV} {ts : List Nat} (h : OwnA F xs cs ts) : (∀ k ∈ ts, F'[k]? = F[k]?) → OwnA F' xs cs ts := by
  induction h with
  | nil => exact fun _ => .nil
  | v x hp _ ih => exact fun hF => .v x hp (ih hF)
  | s x _ ih => exact fun hF => .s x (ih hF)
  | nils t sz _ ih => exact fun hF => .nils t sz (ih hF)
  | l t sz es k ys hk hl hs hy _ _ ih1 ih2 =>
    exact fun hF => .l t sz es k ys (by rw [hF k (by simp)]; exact hk) hl hs hy (ih1 fun j hj => hF j (by simp [hj])) (ih2 fun j hj => hF j (by simp [hj]))
  | a fs us _ _ ih1 ih2 => exact fun hF => .a fs us (ih1 fun j hj => hF j (by simp [hj])) (ih2 fun j hj => hF j (by simp [hj]))
  | av fs us h1 _ _ ih1 ih2 => exact fun hF => .av fs us h1 (ih1 fun j hj => hF j (by simp [hj])) (ih2 fun j hj => hF j (by simp [hj]))
  | p fs us _ _ ih1 ih2 => exact fun hF => .p fs us (ih1 fun j hj => hF j (by simp [hj])) (ih2 fun j hj => hF j (by simp [hj]))
theorem OwnA.lt {F : Fr} {xs : List Tr} {cs : List AV} {ts : List Nat} (h : OwnA F xs cs ts) : ∀ k ∈ ts, k < F.length := by
  induction h with
  | nil => simp
  | v _ _ _ ih => exact ih
  | s _ _ ih => exact ih
  | nils _ _ _ ih => exact ih
  | l t sz es k ys hk _ _ _ _ _ ih1 ih2 =>
    intro j hj
    simp only [List.cons_append, List.mem_cons, List.mem_append] at hj
    rcases hj with rfl | hj | hj
    · exact getElem?_lt hk
    · exact ih1 j hj
    · exact ih2 j hj
  | a _ _ _ _ ih1 ih2 => exact fun j hj => (List.mem_append.1 hj).elim (ih1 j) (ih2 j)
  | av _ _ _ _ _ ih1 ih2 => exact fun j hj => (List.mem_append.1 hj).elim (ih1 j) (ih2 j)
  | p _ _ _ _ ih1 ih2 => exact fun j hj => (List.mem_append.1 hj).elim (ih1 j) (ih2 j)
theorem OwnA.len {F : Fr} {xs : List Tr} {cs : List AV} {ts : List Nat} (h : OwnA F xs cs ts) : xs.length = cs.length := by
  induction h <;> simp_all
/-- slice k is the list al, with rows ys, whose tokens are ts -/
structure AccO (T : Ty α) (t k : Nat) (F : Fr) (al : List α) (ys : List (List AV)) (ts : List Nat) : Prop where
  hk : F[k]? = some (t, T.sz, al.length)
  hl : ys.length = al.length
  hs : ∀ y ∈ ys, y.length = T.sz
  own : OwnA F (al.map T.q).flatten ys.flatten ts
  nd : ts.Nodup
  kn : k ∉ ts
theorem AccO.nil {T : Ty α} {t k : Nat} {F : Fr} (hk : F[k]? = some (t, T.sz, 0)) : AccO T t k F [] [] [] := ⟨hk, rfl, by simp, .nil, List.nodup_nil, by simp⟩
theorem AccO.klt {T : Ty α} {t k : Nat} {F : Fr} {al : List α} {ys : List (List AV)} {ts : List Nat} (h : AccO T t k F al ys ts) : k < F.length := getElem?_lt h.hk
/-- memory that grows elsewhere -/
theorem AccO.grow {T : Ty α} {t k : Nat} {F : Fr} {al : List α} {ys : List (List AV)} {ts : List Nat} (h : AccO T t k F al ys ts) (G : Fr) : AccO T t k (F ++ G) al ys ts :=
  ⟨by rw [List.getElem?_append_left h.klt]; exact h.hk, h.hl, h.hs, h.own.mono fun j hj => List.getElem?_append_left (h.own.lt j hj), h.nd, h.kn⟩
theorem AccO.app {T : Ty α} {t k : Nat} {F : Fr} {al : List α} {ys : List (List AV)} {ts : List Nat} (h : AccO T t k F al ys ts) {m : Nat} (bs : List α) (zs : List (List AV)) (us : List Nat) (hm : m = al.length + bs.length) (hl : zs.length = bs.length) (hs : ∀ z ∈ zs, z.length = T.sz)
    (ho : OwnA F (bs.map T.q).flatten zs.flatten us) (hn : us.Nodup) (hd : ∀ j ∈ us, j ≠ k ∧ j ∉ ts) : AccO T t k (F.set k (t, T.sz, m)) (al ++ bs) (ys ++ zs) (ts ++ us) where
  hk := by rw [List.getElem?_set, if_pos rfl, if_pos h.klt, hm, List.length_append]
  hl := by rw [List.length_append, List.length_append, h.hl, hl]
  hs y hy := (List.mem_append.1 hy).elim (h.hs y) (hs y)
  own := by
    rw [List.map_append, List.flatten_append, List.flatten_append]
    refine OwnA.append (h.own.mono fun j hj => ?_) (ho.mono fun j hj => ?_)
    · rw [List.getElem?_set, if_neg fun e => h.kn (by rw [e]; exact hj)]
    · rw [List.getElem?_set, if_neg fun e => (hd j hj).1 e.symm]
  nd := List.nodup_append.2 ⟨h.nd, hn, fun a ha b hb e => (hd b hb).2 (by rw [← e]; exact ha)⟩
  kn hm := (List.mem_append.1 hm).elim h.kn fun hm => (hd k hm).1 rfl
theorem AccO.final {T : Ty α} {t k : Nat} {F : Fr} {al : List α} {ys : List (List AV)} {ts : List Nat} (h : AccO T t k F al ys ts) : ∃ us, OwnA F [.l t T.sz (al.map T.q)] [.list (some k) ys] us ∧ us.Nodup := by
  refine ⟨k :: ts ++ [], .l t T.sz _ k ys (by rw [h.hk, List.length_map]) (by rw [h.hl, List.length_map]) (fun e he => ?_) h.hs h.own .nil, ?_⟩
  · obtain ⟨a, _, rfl⟩ := List.mem_map.1 he
    exact T.hq a
  · rw [List.append_nil]; exact List.nodup_cons.2 ⟨h.kn, h.nd⟩
theorem Sees0.vals {vs : Array Value} {ys : List AV} (h1 : vs.toList.all (·.oneCell') = true) (h : SeesL Sees0 (vs.toList.map constAV) ys) : Sees0 (.val (.agg vs)) (.agg ys) := fun {B w F tok fr box v} hx B' box' => by
  rw [hx.val_inv]
  have hg : ∀ i, i < vs.size → vs.toList[i]? = some (vs.getD i undef) := fun i hi => by simp [Array.getD, hi]
  refine .agg ys vs (by rw [← h.length]; simp) (fun i hi => List.all_eq_true.1 h1 _ (List.mem_of_getElem? (hg i hi))) (fun i c hc => ?_)
  obtain ⟨x, hx', hS⟩ := h.get' hc
  rw [List.getElem?_map] at hx'
  obtain ⟨u, hu, rfl⟩ := Option.map_eq_some_iff.1 hx'
  have hi := getElem?_lt hu
  rw [hg i (by simpa using hi)] at hu
  cases hu
  exact hS (.rep _ _ (constAV_rep (B := B') (w := w) (F := F) (tok := []) (fr := []) (box := box') _)) B' box'
end Abs
end Go.Proofs.Ytplfkocigmnpmaa
namespace Go.Proofs.Ytplfkocigmnpmaa
open Abs
theorem Canon.int : Canon Ty.int := fun _ => ⟨fun _ => rfl, rfl⟩
mutual
theorem Abs.inB_nr {m : Nat} : ∀ {x : AV}, noRef x = true → inB m x
  | .bptr _ _, h => by cases h
  | .bsl _ _, h => by cases h
  | .bmap _, h => by cases h
  | .tag _ x, h => inB_nr (x := x) h
  | .agg cs, h => inBL_nr (cs := cs) h
  | .tup cs, h => inBL_nr (cs := cs) h
  | .clo _ a b, h => by
    have h' : (noRef.noRefL a && noRef.noRefL b) = true := h
    rw [Bool.and_eq_true] at h'
    exact ⟨inBL_nr (cs := a) h'.1, inBL_nr (cs := b) h'.2⟩
  | .cond _ _, h => by cases h
  | .any, _ => trivial
  | .val _, _ => trivial
  | .str _, _ => trivial
  | .list _ _, _ => trivial
  | .rptr _, _ => trivial
theorem Abs.inBL_nr {m : Nat} : ∀ {cs : List AV}, noRef.noRefL cs = true → inB.inBL m cs
  | [], _ => trivial
  | c :: cs, h => by
    have h' : (noRef c && noRef.noRefL cs) = true := h
    rw [Bool.and_eq_true] at h'
    exact ⟨inB_nr (x := c) h'.1, inBL_nr (cs := cs) h'.2⟩
end
end Go.Proofs.Ytplfkocigmnpmaa
namespace Go.Proofs.Ytplfkocigmnpmaa
open Abs
def tInts : Ty (List Int) := Ty.plain 3 Ty.int (fun _ => rfl) (fun _ => rfl)
theorem tInts_size (l : List Int) : tInts.size l = l.length + listSize Ty.int l := rfl
theorem szI_zero : ∀ l : List Int, listSize Ty.int l = 0
  | [] => rfl
  | a :: l => by rw [listSize, szI_zero l]; rfl
theorem szI_eq (l : List Int) : l.length = tInts.size l := by rw [tInts_size, szI_zero, Nat.add_zero]
theorem ints_get {l : List Int} {i : Nat} (hi : i < l.length) : l[i]? = some (l.getD i default) := by simp [List.getD, hi]
theorem toIntS.ret (l : List Int) (hl : l.length ≤ 1048576) : toIntS.Ret [.list none (rows Ty.int l)] (.list (some 0) (rows Ty.int l)) [(3, 1, l.length)] := by
  refine toIntS.of rfl ?_
  have hsz : ∀ c ∈ rows Ty.int l, c.length = 1 := oldLL_sz Ty.int.hq
  repeat' first
    | contradiction | exact trivial
    | (conv => whnf
       first | refine Need.mk (fun h => h) ?_ | refine Need.mk rfl ?_ | refine Need.mk ⟨rfl, Nat.le_of_ble_eq_true rfl⟩ ?_ | refine Need.mk (Nat.le_of_ble_eq_true rfl) ?_ | refine Need.fin ?_ | refine Need.mk ?_ ?_ | refine Ix.strsF rfl ?_ | refine Ix.strs rfl ?_ ?_ | refine Cut.strs rfl ?_ ?_ | refine Ix.mapF (fun _ => rfl) ?_ | refine Ix.map (fun _ => rfl) ?_ ?_ | refine Cut.map (fun _ => rfl) ?_ ?_ | refine Fork.yes (by assumption) ?_ | refine Fork.no (by assumption) ?_ | refine Fork.decYes (by omega) ?_ | refine Fork.decNo (by omega) ?_ | refine Fork.dec (fun _ => ?_) (fun _ => ?_) | refine Fork.bne (fun _ => ?_) (fun _ => ?_) | refine Fork.beq (fun _ => ?_) (fun _ => ?_) | refine Fork.seq (fun _ => ?_) (fun _ => ?_) | refine Fork.sne (fun _ => ?_) (fun _ => ?_) | refine Fork.neg (fun _ => ?_) (fun _ => ?_) | refine Fork.mk (fun _ => ?_) (fun _ => ?_) | refine HAlt.mk ?_ ?_ | apply HJoin.mk3 | exact HEnd.mk rfl rfl rfl | refine HEnd.mk ?_ ?_ ?_ | refine Round.mk ?_ | refine NilQ.mk (fun b hb => ?_) | refine forceK_of ?_ | refine forceBx_of ?_ | refine unG_old ?_ | refine unG_gv ?_ | refine Lit.read rfl ?_ | refine LitO.own rfl ?_ | refine FinVal.keep ?_ | refine FinAgg.keep ?_ | refine Final.mk rfl rfl | refine Final.mk ?_ rfl | refine Final.mk ?_ ?_ | refine FinalT.mk ?_ ?_ | refine FinalI.mk ?_ | refine FinalC.allA ?_)
    | refine AV.bool_congr ?_ | refine AV.int_congr ?_ | refine AV.str_congr ?_ | refine AV.list_congr ?_ | with_reducible rfl | refine fr1 ?_ | refine fr2 ?_ ?_
  refine ALoop.mk Nat (fun i => ⟨[(0, .list none (rows Ty.int l)), (3, .bsl 0 l.length), (4, .val (.int .i64 i))], [.cells (.row 3 1) (part [.val (.int .i64 0)] (rows Ty.int l) i)], []⟩) (fun i => i ≤ l.length) (fun i => l.length - i) ⟨0, Nat.zero_le _, ?_⟩ (fun i hi => ?_)
  · repeat' first
      | exact trivial | refine Weak.mk ?_ ?_ ?_ ?_ (Or.inl (Nat.le_of_ble_eq_true rfl)) | refine Weak.mk ?_ ?_ ?_ ?_ (Or.inr ⟨(by repeat' first | exact trivial | exact Nat.le_of_ble_eq_true rfl | refine And.intro ?_ ?_), (by repeat' first | exact trivial | exact Nat.le_of_ble_eq_true rfl | refine And.intro ?_ ?_)⟩) | refine Weak.mk ?_ ?_ ?_ ?_ ?_ | refine And.intro ?_ ?_ | with_reducible rfl | exact Nat.le_of_ble_eq_true rfl | refine fr1 ?_ | refine fr2 ?_ ?_ | refine AV.int_congr ?_ | refine AV.bool_congr ?_ | refine AV.str_congr ?_ | refine AV.list_congr ?_ | refine AV.bsl_congr ?_ ?_ | (apply rfl)
    · simp
    · simp only [List.nil_append, List.length_cons, List.length_nil, List.take_succ_cons, List.take_zero]
      rw [part_made (xs := rows Ty.int l) (sz := 1) rfl (by decide) (by simp)]; rfl
  repeat' first
    | contradiction | exact trivial
    | (conv => whnf
       first | refine Need.mk (fun h => h) ?_ | refine Need.mk rfl ?_ | refine Need.mk ⟨rfl, Nat.le_of_ble_eq_true rfl⟩ ?_ | refine Need.mk (Nat.le_of_ble_eq_true rfl) ?_ | refine Need.fin ?_ | refine Need.mk ?_ ?_ | refine Ix.strsF rfl ?_ | refine Ix.strs rfl ?_ ?_ | refine Cut.strs rfl ?_ ?_ | refine Ix.mapF (fun _ => rfl) ?_ | refine Ix.map (fun _ => rfl) ?_ ?_ | refine Cut.map (fun _ => rfl) ?_ ?_ | refine Fork.yes (by assumption) ?_ | refine Fork.no (by assumption) ?_ | refine Fork.decYes (by omega) ?_ | refine Fork.decNo (by omega) ?_ | refine Fork.dec (fun _ => ?_) (fun _ => ?_) | refine Fork.bne (fun _ => ?_) (fun _ => ?_) | refine Fork.beq (fun _ => ?_) (fun _ => ?_) | refine Fork.seq (fun _ => ?_) (fun _ => ?_) | refine Fork.sne (fun _ => ?_) (fun _ => ?_) | refine Fork.neg (fun _ => ?_) (fun _ => ?_) | refine Fork.mk (fun _ => ?_) (fun _ => ?_) | refine HAlt.mk ?_ ?_ | apply HJoin.mk3 | exact HEnd.mk rfl rfl rfl | refine HEnd.mk ?_ ?_ ?_ | refine Round.mk ?_ | refine NilQ.mk (fun b hb => ?_) | refine forceK_of ?_ | refine forceBx_of ?_ | refine unG_old ?_ | refine unG_gv ?_ | refine Lit.read rfl ?_ | refine LitO.own rfl ?_ | refine FinVal.keep ?_ | refine FinAgg.keep ?_ | refine Final.mk rfl rfl | refine Final.mk ?_ rfl | refine Final.mk ?_ ?_ | refine FinalT.mk ?_ ?_ | refine FinalI.mk ?_ | refine FinalC.allA ?_)
    | refine AV.bool_congr ?_ | refine AV.int_congr ?_ | refine AV.str_congr ?_ | refine AV.list_congr ?_ | with_reducible rfl | refine fr1 ?_ | refine fr2 ?_ ?_
  · rename_i h
    rw [length_rows] at h
    rw [part_len (sz := 1) rfl hsz (by simp; exact hi), Int.toNat_natCast, length_rows]
    exact ⟨rfl, by omega⟩
  · rename_i h
    rw [length_rows] at h
    refine ⟨i + 1, by omega, ?_, by omega⟩
    repeat' first
      | exact trivial | refine Weak.mk ?_ ?_ ?_ ?_ (Or.inl (Nat.le_of_ble_eq_true rfl)) | refine Weak.mk ?_ ?_ ?_ ?_ (Or.inr ⟨(by repeat' first | exact trivial | exact Nat.le_of_ble_eq_true rfl | refine And.intro ?_ ?_), (by repeat' first | exact trivial | exact Nat.le_of_ble_eq_true rfl | refine And.intro ?_ ?_)⟩) | refine Weak.mk ?_ ?_ ?_ ?_ ?_ | refine And.intro ?_ ?_ | with_reducible rfl | exact Nat.le_of_ble_eq_true rfl | refine fr1 ?_ | refine fr2 ?_ ?_ | refine AV.int_congr ?_ | refine AV.bool_congr ?_ | refine AV.str_congr ?_ | refine AV.list_congr ?_ | refine AV.bsl_congr ?_ ?_ | (apply rfl)
    · rw [wrap64 (by omega) (by omega)]; rfl
    · have hg : (rows Ty.int l)[i]? = some (oldL (Ty.int.q (l.getD i default))) := by rw [rows, oldLL_eq, List.getElem?_map, List.getElem?_map, ints_get (by omega), oldL_eq]; rfl
      have := part_set (z := [.val (.int .i64 0)]) (sz := 1) rfl hsz hg
      simp only [List.set_cons_zero, List.take_succ_cons, List.take_zero, List.length_cons, List.length_nil, Int.toNat_natCast]
      exact congrArg (fun c => [ABox.cells (.row 3 1) c]) this
  · rename_i h
    rw [length_rows] at h
    conv => whnf
    have : i = l.length := by omega
    subst this
    have hall := part_all [.val (.int .i64 0)] (rows Ty.int l)
    rw [length_rows] at hall
    refine FreezeD.flat (Freeze.mk (rows Ty.int l) _ 3 1 rfl hall (length_rows _ _) hsz (fun c hc => ?_) ?_)
    · rw [hall, ← rowsP_tks Ty.int (fun _ => rfl) (fun _ => rfl)] at hc; exact tks_nr Ty.int l 0 c hc
    · exact Final.mk rfl rfl
theorem toIntS.own (l : List Int) (hl : tInts.size l ≤ 1048576) : toIntS.Own [.list none (rows Ty.int l)] (.l 3 1 (l.map Ty.int.q)) :=
  Ty.ownV tInts (x := .l 3 1 (l.map Ty.int.q)) rfl rfl (toIntS.ret l (by rw [← szI_eq] at hl; exact hl))
theorem szIntS.ret (l : List Int) (a : Int) (h0 : 0 ≤ a) (ha : a ≤ 1048576) (hl : l.length ≤ 9223372036854775807) :
    szIntS.Ret [.list none (rows Ty.int l), .val (.int .i64 a)] (.val (.int .i64 (left a l.length))) [] := by
  refine szIntS.of rfl ?_
  have hw : IntKind.i64.wrap (a - ((rows Ty.int l).length : Int)) = a - l.length := by rw [length_rows]; exact wrap64 (by omega) (by omega)
  repeat' first
    | contradiction | exact trivial
    | (conv => whnf
       first | refine Need.mk (fun h => h) ?_ | refine Need.mk rfl ?_ | refine Need.mk ⟨rfl, Nat.le_of_ble_eq_true rfl⟩ ?_ | refine Need.mk (Nat.le_of_ble_eq_true rfl) ?_ | refine Need.fin ?_ | refine Need.mk ?_ ?_ | refine Ix.strsF rfl ?_ | refine Ix.strs rfl ?_ ?_ | refine Cut.strs rfl ?_ ?_ | refine Ix.mapF (fun _ => rfl) ?_ | refine Ix.map (fun _ => rfl) ?_ ?_ | refine Cut.map (fun _ => rfl) ?_ ?_ | refine Fork.yes (by assumption) ?_ | refine Fork.no (by assumption) ?_ | refine Fork.decYes (by omega) ?_ | refine Fork.decNo (by omega) ?_ | refine Fork.dec (fun _ => ?_) (fun _ => ?_) | refine Fork.bne (fun _ => ?_) (fun _ => ?_) | refine Fork.beq (fun _ => ?_) (fun _ => ?_) | refine Fork.seq (fun _ => ?_) (fun _ => ?_) | refine Fork.sne (fun _ => ?_) (fun _ => ?_) | refine Fork.neg (fun _ => ?_) (fun _ => ?_) | refine Fork.mk (fun _ => ?_) (fun _ => ?_) | refine HAlt.mk ?_ ?_ | apply HJoin.mk3 | exact HEnd.mk rfl rfl rfl | refine HEnd.mk ?_ ?_ ?_ | refine Round.mk ?_ | refine NilQ.mk (fun b hb => ?_) | refine forceK_of ?_ | refine forceBx_of ?_ | refine unG_old ?_ | refine unG_gv ?_ | refine Lit.read rfl ?_ | refine LitO.own rfl ?_ | refine FinVal.keep ?_ | refine FinAgg.keep ?_ | refine Final.mk rfl rfl | refine Final.mk ?_ rfl | refine Final.mk ?_ ?_ | refine FinalT.mk ?_ ?_ | refine FinalI.mk ?_ | refine FinalC.allA ?_)
    | refine AV.bool_congr ?_ | refine AV.int_congr ?_ | refine AV.str_congr ?_ | refine AV.list_congr ?_ | with_reducible rfl | refine fr1 ?_ | refine fr2 ?_ ?_
  all_goals rename_i h
  all_goals rw [hw] at h
  · rw [left, if_pos (by omega)]
  · rw [hw, left, if_neg (by omega)]
theorem eqIntS.big (l m : List Int) (h : tInts.size l ≤ 1099511627775) : eqIntS.Ret [.list none (rows Ty.int l), .list none (rows Ty.int m)] (.val (.bool (decide (l = m)))) [] := by
  refine eqIntS.of rfl ?_
  rw [← szI_eq] at h
  repeat' first
    | (conv => whnf
       first | refine Need.mk rfl ?_ | refine Fork.bne (fun _ => ?_) (fun _ => ?_) | refine LitO.own rfl ?_ | refine FinVal.keep ?_ | refine Final.mk ?_ rfl)
    | refine AV.bool_congr ?_
  · rename_i h
    rw [length_rows, length_rows] at h
    have h3 : ¬ l = m := fun e => h (by rw [e])
    simp [h3]
  rename_i h
  rw [length_rows, length_rows] at h
  have h : l.length = m.length := by omega
  skip
  refine ALoop.mk Nat (fun i => ⟨[(0, .list none (rows Ty.int l)), (1, .list none (rows Ty.int m)), (5, .val (.int .i64 i))], [], []⟩) (fun i => i ≤ l.length ∧ l.take i = m.take i) (fun i => l.length - i) ⟨0, ⟨Nat.zero_le _, rfl⟩, ?_⟩ (fun i hi => ?_)
  · repeat' first
      | exact trivial | refine Weak.mk ?_ ?_ ?_ ?_ (Or.inl (Nat.le_of_ble_eq_true rfl)) | refine And.intro ?_ ?_ | with_reducible rfl | exact Nat.le_of_ble_eq_true rfl | refine AV.int_congr ?_ | refine AV.list_congr ?_ | (apply rfl)
  repeat' first
    | (conv => whnf
       first | refine Need.mk rfl ?_ | refine Ix.mapF (fun _ => rfl) ?_ | refine Fork.dec (fun _ => ?_) (fun _ => ?_) | refine Fork.bne (fun _ => ?_) (fun _ => ?_) | refine Round.mk ?_ | refine LitO.own rfl ?_ | refine FinVal.keep ?_ | refine Final.mk ?_ rfl)
    | refine AV.bool_congr ?_
  · rename_i h1 h2
    have h3 : ¬ l = m := fun e => h2 (by rw [e])
    simp [h3]
  · rename_i h1 h2
    rw [length_rows] at h1
    refine ⟨i + 1, ⟨by omega, ?_⟩, ?_, by omega⟩
    · rw [take_succ' default (by omega), take_succ' (l := m) default (by omega), hi.2]
      rw [Int.toNat_natCast] at h2
      have h2' : l.getD i default = m.getD i default := h2
      rw [h2']
    · repeat' first
        | exact trivial | refine Weak.mk ?_ ?_ ?_ ?_ (Or.inl (Nat.le_of_ble_eq_true rfl)) | refine And.intro ?_ ?_ | with_reducible rfl | exact Nat.le_of_ble_eq_true rfl | refine AV.int_congr ?_ | refine AV.list_congr ?_ | (apply rfl)
      rw [wrap64 (by omega) (by omega)]; rfl
  · rename_i h1
    rw [length_rows] at h1
    have h2 := hi.2
    rw [List.take_of_length_le (by omega), List.take_of_length_le (by omega)] at h2
    simp [h2]
theorem cnLL_int : ∀ (l : List Int), cnLL (l.map Ty.int.q) = l.length
  | [] => rfl
  | s :: l => by rw [List.map_cons, cnLL, cnLL_int l, List.length_cons]; show 1 + 0 + _ = _; omega
theorem markIntS.tn (l : List Int) (k : Nat) (_hs : tInts.size l ≤ 1099511627775) (hk : k + cn (.l 3 1 (l.map Ty.int.q)) ≤ 1099511627775) :
    markIntS.Turn (gb (.l 3 1 (l.map Ty.int.q)) 0) [gv (.l 3 1 (l.map Ty.int.q)) 0, .val (.int .i64 k)] (.val (.int .i64 ((k + cn (.l 3 1 (l.map Ty.int.q)) : Nat)))) (gb (mk (.l 3 1 (l.map Ty.int.q)) k) 0) := by
  refine markIntS.ofT rfl rfl (by rw [length_gb, nb_mk]) ?_
  obtain ⟨cs, hcs⟩ : ∃ cs, cs = (l.map Ty.int.q).flatten := ⟨_, rfl⟩
  have hlen : cs.length = l.length * 1 := by rw [hcs]; exact flat_len _ 1 Ty.int.hq l
  have hc0 : ∀ i, i < l.length → cs[i * 1 + 0]? = some (.v (.int .i64 (l.getD i default))) := fun i hi => by rw [hcs]; exact cell_at Ty.int.q 1 Ty.int.hq hi rfl
  have hcl : cnC cs = l.length := by rw [hcs, ← cnLL_flatten, cnLL_int]
  rw [gb_mk_l0, gb_l0, cn_l, gv, List.length_map, ← hcs]
  rw [cn_l, ← hcs] at hk
  clear hcs
  skip
  refine ALoop.mk Nat (fun i => ⟨[(0, .bsl 0 l.length), (1, .val (.int .i64 ((k + cnC (cs.take (i * 1)) : Nat)))), (5, .val (.int .i64 i))], .cells (.row 3 1) (gvL (st cs k (i * 1)) 1) :: gbL (st cs k (i * 1)) 1, []⟩) (fun i => i ≤ l.length) (fun i => l.length - i) ⟨0, Nat.zero_le _, ?_⟩ (fun i hi => ?_)
  · refine weak_st ⟨rfl, ?_, rfl, trivial⟩ ?_ ?_ rfl ?_
    · rw [Nat.zero_mul]; rfl
    · rw [Nat.zero_mul, st_zero]
    · rw [Nat.zero_mul, st_zero]
    · rw [Nat.zero_mul, st_zero, List.length_cons]; exact Nat.le_refl _
  have hle := cn_take_le cs (i * 1)
  rcases Nat.lt_or_ge i l.length with hlt | hge
  rotate_left
  · have hiw : i * 1 = cs.length := by omega
    repeat' first
      | (conv => whnf
         first | refine Need.mk rfl ?_ | refine Fork.decNo (by omega) ?_ | refine forceBx_of ?_ | refine LitO.own rfl ?_ | refine FinalT.mk ?_ ?_)
      | refine AV.int_congr ?_
    · rw [hiw, List.take_length]
    · rw [hiw, st_all cs k rfl]; exact take_all (by rw [List.length_cons, List.length_cons, length_gbL, length_gbL, nbL_mkC]; exact Nat.le_refl _)
  have hi1 : (i + 1) * 1 = i * 1 + 1 := by omega
  have l0 := cn_take_le cs (i * 1 + 1)
  have n0 : cnC (cs.take (i * 1 + 1)) = cnC (cs.take (i * 1)) + 1 := cn_succ (hc0 i hlt)
  have w0 : IntKind.i64.wrap (((k + cnC (cs.take (i * 1)) : Nat) : Int) + 1) = ((k + cnC (cs.take (i * 1 + 1)) : Nat) : Int) := by rw [wrap64 (by omega) (by omega)]; omega
  have b0 : gbL (st cs k (i * 1 + 1)) 1 = gbL (st cs k (i * 1)) 1 := gbL_st k 1 (hc0 i hlt) rfl
  have g0 : gvL (st cs k (i * 1 + 1)) 1 = (gvL (st cs k (i * 1)) 1).set (i * 1) (.val (.int .i64 (((k + cnC (cs.take (i * 1)) : Nat) : Int)))) := gvL_st k 1 (hc0 i hlt)
  repeat' first
    | (conv => whnf
       first | refine Need.mk rfl ?_ | refine Need.fin ?_ | refine Need.mk ⟨rfl, by simp only [length_setAt, List.length_set, length_gvL, length_st, Int.toNat_natCast]; omega⟩ ?_ | refine Fork.decYes (by omega) ?_ | refine Round.mk ?_ | refine forceBx_of ?_ | refine LitO.own rfl ?_)
  refine ⟨i + 1, by omega, weak_st ⟨rfl, AV.int_congr ?_, AV.int_congr ?_, trivial⟩ (congrArg (ABox.cells (.row 3 1)) ?_) ?_ rfl ?_, by omega⟩
  · rw [hi1]; exact w0
  · rw [wrap64 (by omega) (by omega)]; rfl
  · rw [hi1, g0]
    try rfl
  · rw [hi1, b0]
  · simp only [hi1, List.length_cons, length_gbL, nbL_st, Nat.le_refl]
theorem heldIntS.hd (l : List Int) (k : Nat) (_hs : tInts.size l ≤ 1099511627775) (hk : k + cn (.l 3 1 (l.map Ty.int.q)) ≤ 1099511627775) : heldIntS.Ret [old (mk (.l 3 1 (l.map Ty.int.q)) k), .val (.int .i64 k)] (.val (.int .i64 ((k + cn (.l 3 1 (l.map Ty.int.q)) : Nat)))) [] := by
  refine heldIntS.ofS rfl rfl ?_
  have hl : (oldLL (mkLL (l.map Ty.int.q) k)).length = l.length := by rw [length_oldLL, length_mkLL, List.length_map]
  change k + cnLL (l.map Ty.int.q) ≤ _ at hk
  have hcl := cnLL_int l
  show aCode _ _ _ _ (doneS _ (.val (.int .i64 ((k + cnLL (l.map Ty.int.q) : Nat))))) ⟨argEnv 0 [.list none (oldLL (mkLL (l.map Ty.int.q) k)), .val (.int .i64 k)], [], []⟩
  skip
  refine ALoop.mk Nat (fun i => ⟨[(0, .list none (oldLL (mkLL (l.map Ty.int.q) k))), (1, .val (.int .i64 ((k + cnLL ((l.map Ty.int.q).take i) : Nat)))), (5, .val (.int .i64 i))], [], []⟩) (fun i => i ≤ l.length) (fun i => l.length - i) ⟨0, Nat.zero_le _, ?_⟩ (fun i hi => ?_)
  · repeat' first
      | exact trivial | refine Weak.mk ?_ ?_ ?_ ?_ (Or.inl (Nat.le_of_ble_eq_true rfl)) | refine And.intro ?_ ?_ | with_reducible rfl | exact Nat.le_of_ble_eq_true rfl | refine AV.int_congr ?_ | refine AV.list_congr ?_ | (apply rfl)
  rcases Nat.lt_or_ge i l.length with hlt | hge
  rotate_left
  · have hil : (l.map Ty.int.q).take i = l.map Ty.int.q := List.take_of_length_le (by rw [List.length_map]; exact hge)
    repeat' first
      | (conv => whnf
         first | refine Need.mk rfl ?_ | refine Fork.decNo (by omega) ?_ | refine LitO.own rfl ?_ | refine FinVal.keep ?_ | refine Final.mk ?_ rfl)
      | refine AV.int_congr ?_
    rw [hil]
  have hx : (l.map Ty.int.q)[i]? = some (Ty.int.q (l.getD i default)) := by rw [List.getElem?_map, ints_get hlt]; rfl
  have hle := cnLL_take_le (l.map Ty.int.q) (i + 1)
  have hn := cnLL_succ hx
  obtain ⟨K, hK⟩ : ∃ K, K = k + cnLL ((l.map Ty.int.q).take i) := ⟨_, rfl⟩
  have hix : (0 : Int) ≤ (i : Int) ∧ (oldLL (mkLL (l.map Ty.int.q) k))[(i : Int).toNat]? = some (oldL (mkC (Ty.int.q (l.getD i default)) K)) ∧ (oldL (mkC (Ty.int.q (l.getD i default)) K)).length = 1 := by
    refine ⟨by omega, ?_, by rw [oldL_eq, List.length_map, length_mkC, Ty.int.hq]; rfl⟩
    rw [Int.toNat_natCast, oldLL_eq, List.getElem?_map, mkLL_get _ _ _ _ hx, oldL_eq, hK]; rfl
  have hKn : k + cnLL ((l.map Ty.int.q).take (i + 1)) = K + 1 := by
    rw [hn, ← Nat.add_assoc, ← hK]; rfl
  rw [← hK]
  have w0 : IntKind.i64.wrap ((K : Int) + 1) = ((K + 1 : Nat) : Int) := by rw [wrap64 (by omega) (by omega)]; omega
  repeat' first
    | (conv => whnf
       first | refine Need.mk rfl ?_ | refine Ix.mk _ (fun _ => hix) ?_ | refine Fork.decYes (by omega) ?_ | refine LitO.own rfl ?_)
  conv => whnf
  refine Fork.bne (fun h => absurd rfl h) (fun _ => ?_)
  repeat' first
    | (conv => whnf
       first | refine Need.mk rfl ?_ | refine Round.mk ?_ | refine LitO.own rfl ?_)
  refine ⟨i + 1, by omega, ?_, by omega⟩
  repeat' first
    | exact trivial | refine Weak.mk ?_ ?_ ?_ ?_ (Or.inl (Nat.le_of_ble_eq_true rfl)) | refine And.intro ?_ ?_ | with_reducible rfl | exact Nat.le_of_ble_eq_true rfl | refine AV.int_congr ?_ | refine AV.list_congr ?_ | (apply rfl)
  · rw [hKn]; exact w0
  · rw [wrap64 (by omega) (by omega)]; rfl
end Go.Proofs.Ytplfkocigmnpmaa
namespace Go.Proofs.Ytplfkocigmnpmaa
open Abs Go.RowKit
theorem tks_ints (l : List Int) : tks Ty.int l 0 = rows Ty.int l := rowsP_tks Ty.int (fun _ => rfl) (fun _ => rfl) l
end Go.Proofs.Ytplfkocigmnpmaa
namespace Go.Proofs.Ytplfkocigmnpmaa
open Abs Go.RowKit
def cmpN (a b : Int) : Int := if a < b then -1 else if b < a then 1 else 0
theorem nanI (x : Int) : isNaNInt.Ret [.val (.int .i64 x)] (.val (.bool false)) [] := by
  refine isNaNInt.ofS rfl rfl ?_
  repeat' first
    | contradiction | exact trivial
    | (conv => whnf
       first | refine Need.mk (fun h => h) ?_ | refine Need.mk rfl ?_ | refine Need.mk ⟨rfl, Nat.le_of_ble_eq_true rfl⟩ ?_ | refine Need.mk (Nat.le_of_ble_eq_true rfl) ?_ | refine Need.fin ?_ | refine Need.mk ?_ ?_ | refine Ix.strsF rfl ?_ | refine Ix.strs rfl ?_ ?_ | refine Cut.strs rfl ?_ ?_ | refine Ix.mapF (fun _ => rfl) ?_ | refine Ix.map (fun _ => rfl) ?_ ?_ | refine Cut.map (fun _ => rfl) ?_ ?_ | refine Fork.yes (by assumption) ?_ | refine Fork.no (by assumption) ?_ | refine Fork.decYes (by omega) ?_ | refine Fork.decNo (by omega) ?_ | refine Fork.dec (fun _ => ?_) (fun _ => ?_) | refine Fork.bne (fun _ => ?_) (fun _ => ?_) | refine Fork.beq (fun _ => ?_) (fun _ => ?_) | refine Fork.seq (fun _ => ?_) (fun _ => ?_) | refine Fork.sne (fun _ => ?_) (fun _ => ?_) | refine Fork.neg (fun _ => ?_) (fun _ => ?_) | refine Fork.mk (fun _ => ?_) (fun _ => ?_) | refine HAlt.mk ?_ ?_ | apply HJoin.mk3 | exact HEnd.mk rfl rfl rfl | refine HEnd.mk ?_ ?_ ?_ | refine Round.mk ?_ | refine NilQ.mk (fun b hb => ?_) | refine forceK_of ?_ | refine forceBx_of ?_ | refine unG_old ?_ | refine unG_gv ?_ | refine Lit.read rfl ?_ | refine LitO.own rfl ?_ | refine FinVal.keep ?_ | refine FinAgg.keep ?_ | refine Final.mk rfl rfl | refine Final.mk ?_ rfl | refine Final.mk ?_ ?_ | refine FinalT.mk ?_ ?_ | refine FinalI.mk ?_ | refine FinalC.allA ?_)
    | refine AV.bool_congr ?_ | refine AV.int_congr ?_ | refine AV.str_congr ?_ | refine AV.list_congr ?_ | with_reducible rfl | refine fr1 ?_ | refine fr2 ?_ ?_
  simp
theorem cmpInt9.ret (a b : Int) : cmpInt.Ret [.val (.int .i64 a), .val (.int .i64 b)] (.val (.int .i64 (cmpN a b))) [] := by
  refine cmpInt.ofS rfl rfl ?_
  unfold cmpN
  by_cases h1 : a < b
  · rw [if_pos h1]
    repeat' first
      | contradiction | exact trivial
      | (conv => whnf
         first | refine Need.mk (fun h => h) ?_ | refine Need.mk rfl ?_ | refine Need.mk ⟨rfl, Nat.le_of_ble_eq_true rfl⟩ ?_ | refine Need.mk (Nat.le_of_ble_eq_true rfl) ?_ | refine Need.finN ?_ | refine Need.mk ?_ ?_ | refine Ix.strsN rfl ?_ | refine Ix.strs rfl ?_ ?_ | refine Cut.strs rfl ?_ ?_ | refine Ix.mapN (fun _ => rfl) ?_ | refine Ix.map (fun _ => rfl) ?_ ?_ | refine Cut.map (fun _ => rfl) ?_ ?_ | refine Fork.yes (by assumption) ?_ | refine Fork.no (by assumption) ?_ | refine Fork.decY ?_ | refine Fork.andY ?_ | refine Fork.andN ?_ | refine Fork.decN ?_ | refine Fork.dec (fun _ => ?_) (fun _ => ?_) | refine Fork.bne (fun _ => ?_) (fun _ => ?_) | refine Fork.beq (fun _ => ?_) (fun _ => ?_) | refine Fork.seq (fun _ => ?_) (fun _ => ?_) | refine Fork.sne (fun _ => ?_) (fun _ => ?_) | refine Fork.neg (fun _ => ?_) (fun _ => ?_) | refine Fork.mk (fun _ => ?_) (fun _ => ?_) | refine HAlt.mk ?_ ?_ | apply HJoin.mk3 | exact HEnd.mk rfl rfl rfl | refine HEnd.mk ?_ ?_ ?_ | refine Round.mk ?_ | refine NilQ.mk (fun b hb => ?_) | refine forceK_of ?_ | refine forceBx_of ?_ | refine unG_old ?_ | refine unG_gv ?_ | refine Lit.read rfl ?_ | refine LitO.own rfl ?_ | refine FinVal.keep ?_ | refine FinAgg.keep ?_ | refine Final.mk rfl rfl | refine Final.mk ?_ rfl | refine Final.mk ?_ ?_ | refine FinalT.mk ?_ ?_ | refine FinalI.mk ?_ | refine FinalC.allA ?_ | refine ACall.scalA _ _ (nanI _) rfl ?_ | refine AQCall.mkA _ _ (fun hg => nanI _) rfl ?_ | refine AGCall.mkA _ _ (fun hg => nanI _) rfl ?_)
      | refine AV.bool_congr ?_ | refine AV.int_congr ?_ | refine AV.str_congr ?_ | refine AV.list_congr ?_ | with_reducible rfl | refine fr1 ?_ | refine fr2 ?_ ?_
  rw [if_neg h1]
  by_cases h2 : b < a
  · rw [if_pos h2]
    repeat' first
      | contradiction | exact trivial
      | (conv => whnf
         first | refine Need.mk (fun h => h) ?_ | refine Need.mk rfl ?_ | refine Need.mk ⟨rfl, Nat.le_of_ble_eq_true rfl⟩ ?_ | refine Need.mk (Nat.le_of_ble_eq_true rfl) ?_ | refine Need.finN ?_ | refine Need.mk ?_ ?_ | refine Ix.strsN rfl ?_ | refine Ix.strs rfl ?_ ?_ | refine Cut.strs rfl ?_ ?_ | refine Ix.mapN (fun _ => rfl) ?_ | refine Ix.map (fun _ => rfl) ?_ ?_ | refine Cut.map (fun _ => rfl) ?_ ?_ | refine Fork.yes (by assumption) ?_ | refine Fork.no (by assumption) ?_ | refine Fork.decY ?_ | refine Fork.andY ?_ | refine Fork.andN ?_ | refine Fork.decN ?_ | refine Fork.dec (fun _ => ?_) (fun _ => ?_) | refine Fork.bne (fun _ => ?_) (fun _ => ?_) | refine Fork.beq (fun _ => ?_) (fun _ => ?_) | refine Fork.seq (fun _ => ?_) (fun _ => ?_) | refine Fork.sne (fun _ => ?_) (fun _ => ?_) | refine Fork.neg (fun _ => ?_) (fun _ => ?_) | refine Fork.mk (fun _ => ?_) (fun _ => ?_) | refine HAlt.mk ?_ ?_ | apply HJoin.mk3 | exact HEnd.mk rfl rfl rfl | refine HEnd.mk ?_ ?_ ?_ | refine Round.mk ?_ | refine NilQ.mk (fun b hb => ?_) | refine forceK_of ?_ | refine forceBx_of ?_ | refine unG_old ?_ | refine unG_gv ?_ | refine Lit.read rfl ?_ | refine LitO.own rfl ?_ | refine FinVal.keep ?_ | refine FinAgg.keep ?_ | refine Final.mk rfl rfl | refine Final.mk ?_ rfl | refine Final.mk ?_ ?_ | refine FinalT.mk ?_ ?_ | refine FinalI.mk ?_ | refine FinalC.allA ?_ | refine ACall.scalA _ _ (nanI _) rfl ?_ | refine AQCall.mkA _ _ (fun hg => nanI _) rfl ?_ | refine AGCall.mkA _ _ (fun hg => nanI _) rfl ?_)
      | refine AV.bool_congr ?_ | refine AV.int_congr ?_ | refine AV.str_congr ?_ | refine AV.list_congr ?_ | with_reducible rfl | refine fr1 ?_ | refine fr2 ?_ ?_
  · rw [if_neg h2]
    repeat' first
      | contradiction | exact trivial
      | (conv => whnf
         first | refine Need.mk (fun h => h) ?_ | refine Need.mk rfl ?_ | refine Need.mk ⟨rfl, Nat.le_of_ble_eq_true rfl⟩ ?_ | refine Need.mk (Nat.le_of_ble_eq_true rfl) ?_ | refine Need.finN ?_ | refine Need.mk ?_ ?_ | refine Ix.strsN rfl ?_ | refine Ix.strs rfl ?_ ?_ | refine Cut.strs rfl ?_ ?_ | refine Ix.mapN (fun _ => rfl) ?_ | refine Ix.map (fun _ => rfl) ?_ ?_ | refine Cut.map (fun _ => rfl) ?_ ?_ | refine Fork.yes (by assumption) ?_ | refine Fork.no (by assumption) ?_ | refine Fork.decY ?_ | refine Fork.andY ?_ | refine Fork.andN ?_ | refine Fork.decN ?_ | refine Fork.dec (fun _ => ?_) (fun _ => ?_) | refine Fork.bne (fun _ => ?_) (fun _ => ?_) | refine Fork.beq (fun _ => ?_) (fun _ => ?_) | refine Fork.seq (fun _ => ?_) (fun _ => ?_) | refine Fork.sne (fun _ => ?_) (fun _ => ?_) | refine Fork.neg (fun _ => ?_) (fun _ => ?_) | refine Fork.mk (fun _ => ?_) (fun _ => ?_) | refine HAlt.mk ?_ ?_ | apply HJoin.mk3 | exact HEnd.mk rfl rfl rfl | refine HEnd.mk ?_ ?_ ?_ | refine Round.mk ?_ | refine NilQ.mk (fun b hb => ?_) | refine forceK_of ?_ | refine forceBx_of ?_ | refine unG_old ?_ | refine unG_gv ?_ | refine Lit.read rfl ?_ | refine LitO.own rfl ?_ | refine FinVal.keep ?_ | refine FinAgg.keep ?_ | refine Final.mk rfl rfl | refine Final.mk ?_ rfl | refine Final.mk ?_ ?_ | refine FinalT.mk ?_ ?_ | refine FinalI.mk ?_ | refine FinalC.allA ?_ | refine ACall.scalA _ _ (nanI _) rfl ?_ | refine AQCall.mkA _ _ (fun hg => nanI _) rfl ?_ | refine AGCall.mkA _ _ (fun hg => nanI _) rfl ?_)
      | refine AV.bool_congr ?_ | refine AV.int_congr ?_ | refine AV.str_congr ?_ | refine AV.list_congr ?_ | with_reducible rfl | refine fr1 ?_ | refine fr2 ?_ ?_
theorem pgreaterFirst.ret (a b : Int) : pgreaterFirst.Ret [.val (.int .i64 a), .val (.int .i64 b)] (.val (.int .i64 (cmpN b a))) [] := by
  refine pgreaterFirst.ofS rfl rfl ?_
  have h := cmpInt9.ret b a
  repeat' first
    | contradiction | exact trivial
    | (conv => whnf
       first | refine Need.mk (fun h => h) ?_ | refine Need.mk rfl ?_ | refine Need.mk ⟨rfl, Nat.le_of_ble_eq_true rfl⟩ ?_ | refine Need.mk (Nat.le_of_ble_eq_true rfl) ?_ | refine Need.fin ?_ | refine Need.mk ?_ ?_ | refine Ix.strsF rfl ?_ | refine Ix.strs rfl ?_ ?_ | refine Cut.strs rfl ?_ ?_ | refine Ix.mapF (fun _ => rfl) ?_ | refine Ix.map (fun _ => rfl) ?_ ?_ | refine Cut.map (fun _ => rfl) ?_ ?_ | refine Fork.yes (by assumption) ?_ | refine Fork.no (by assumption) ?_ | refine Fork.decYes (by omega) ?_ | refine Fork.decNo (by omega) ?_ | refine Fork.dec (fun _ => ?_) (fun _ => ?_) | refine Fork.bne (fun _ => ?_) (fun _ => ?_) | refine Fork.beq (fun _ => ?_) (fun _ => ?_) | refine Fork.seq (fun _ => ?_) (fun _ => ?_) | refine Fork.sne (fun _ => ?_) (fun _ => ?_) | refine Fork.neg (fun _ => ?_) (fun _ => ?_) | refine Fork.mk (fun _ => ?_) (fun _ => ?_) | refine HAlt.mk ?_ ?_ | apply HJoin.mk3 | exact HEnd.mk rfl rfl rfl | refine HEnd.mk ?_ ?_ ?_ | refine Round.mk ?_ | refine NilQ.mk (fun b hb => ?_) | refine forceK_of ?_ | refine forceBx_of ?_ | refine unG_old ?_ | refine unG_gv ?_ | refine Lit.read rfl ?_ | refine LitO.own rfl ?_ | refine FinVal.keep ?_ | refine FinAgg.keep ?_ | refine Final.mk rfl rfl | refine Final.mk ?_ rfl | refine Final.mk ?_ ?_ | refine FinalT.mk ?_ ?_ | refine FinalI.mk ?_ | refine FinalC.allA ?_ | refine ACall.scalA _ _ (h) rfl ?_ | refine AQCall.mkA _ _ (fun hg => h) rfl ?_ | refine AGCall.mkA _ _ (fun hg => h) rfl ?_)
    | refine AV.bool_congr ?_ | refine AV.int_congr ?_ | refine AV.str_congr ?_ | refine AV.list_congr ?_ | with_reducible rfl | refine fr1 ?_ | refine fr2 ?_ ?_
end Go.Proofs.Ytplfkocigmnpmaa
namespace Go.Proofs
namespace Stb
open Go.Sort
variable {α : Type} [Inhabited α]
variable {R : α → α → Prop}
omit [Inhabited α] in
theorem put_in {V1 V2 : List α} {u : α} (hV : (V1 ++ V2).Pairwise R) (h1 : ∀ v ∈ V1, R v u) (h2 : ∀ v ∈ V2, R u v) : (V1 ++ u :: V2).Pairwise R := by
  obtain ⟨a, b, c⟩ := List.pairwise_append.1 hV
  refine List.pairwise_append.2 ⟨a, List.pairwise_cons.2 ⟨h2, b⟩, fun x hx y hy => ?_⟩
  rcases List.mem_cons.1 hy with rfl | hy
  · exact h1 x hx
  · exact c x hx y hy
/-- what lies before h in a sorted list -/
theorem before {V : List α} {h k : Nat} (hV : V.Pairwise R) (hk : k < h) (hh : h < V.length) : R (V.getD k default) (V.getD h default) := by
  have e : ∀ i (hi : i < V.length), V.getD i default = V[i] := fun i hi => by simp [List.getD, hi]
  rw [e k (by omega), e h hh]
  exact List.pairwise_iff_getElem.1 hV k h (by omega) hh hk
section ins
variable {c : α → α → Bool}
end ins
end Stb
end Go.Proofs
namespace Go.Proofs.Ytplfkocigmnpmaa
open Abs Go.RowKit
abbrev Fall (l : List Int) : Prop := l.Pairwise (fun a b => b ≤ a)
theorem fall_unique : ∀ {A B : List Int}, A.Perm B → Fall A → Fall B → A = B
  | [], B, h, _, _ => (List.Perm.nil_eq h)
  | a :: A, B, h, hA, hB => by
    cases B with
    | nil => exact absurd h.length_eq (by simp)
    | cons b B =>
      have h1 : b ≤ a := by
        rcases List.mem_cons.1 (h.symm.mem_iff.1 (List.mem_cons_self : b ∈ b :: B)) with e | hb
        · omega
        · exact (List.pairwise_cons.1 hA).1 b hb
      have h2 : a ≤ b := by
        rcases List.mem_cons.1 (h.mem_iff.1 (List.mem_cons_self : a ∈ a :: A)) with e | ha
        · omega
        · exact (List.pairwise_cons.1 hB).1 a ha
      have e : a = b := by omega
      subst e
      rw [fall_unique ((List.perm_cons a).1 h) (List.pairwise_cons.1 hA).2 (List.pairwise_cons.1 hB).2]
def fallF (l : List Int) : List Int := l.mergeSort fun a b => decide (b ≤ a)
theorem fallF_perm (l : List Int) : (fallF l).Perm l := List.mergeSort_perm l _
theorem fallF_fall (l : List Int) : Fall (fallF l) := by
  have := List.pairwise_mergeSort (le := fun a b : Int => decide (b ≤ a)) (fun a b c h1 h2 => by simp at *; omega) (fun a b => by simp; omega) l
  exact this.imp fun h => by simpa using h
theorem fallF_len (l : List Int) : (fallF l).length = l.length := (fallF_perm l).length_eq
theorem fallF_is {l S : List Int} (h : S.Perm l) (hf : Fall S) : S = fallF l := fall_unique (h.trans (fallF_perm l).symm) hf (fallF_fall l)
/-- the cells of numbers -/
def ci (l : List Int) : List AV := l.map fun n => .val (.int .i64 n)
theorem ci_rows (l : List Int) : (rows Ty.int l).flatten = ci l := by
  induction l with
  | nil => rfl
  | cons a l ih =>
    show (oldL (Ty.int.q a) :: rows Ty.int l).flatten = _
    rw [List.flatten_cons, ih]; rfl
theorem ci_len (l : List Int) : (ci l).length = l.length := by simp [ci]
theorem ci_set {A B : List Int} {a v : Int} {k : Nat} (hk : k = A.length) : (ci (A ++ a :: B)).set k (.val (.int .i64 v)) = ci (A ++ v :: B) := by
  subst hk
  simp [ci, List.map_append]
theorem ci_drop {A B : List Int} {a : Int} {k : Nat} (hk : k = A.length) : (ci (A ++ a :: B)).drop k = .val (.int .i64 a) :: ci B := by
  subst hk
  simp [ci, List.map_append]
theorem ci_nr (l : List Int) : ∀ c ∈ ci l, noRef c = true := fun c hc => by
  obtain ⟨n, _, rfl⟩ := List.mem_map.1 hc; rfl
theorem inner_nr (l : List Int) : noRef.noRefL (ci l) = true := by rw [noRefL_all, List.all_eq_true]; exact ci_nr l
theorem sFalling.own (l : List Int) (h : l.length ≤ 1048576) : sFalling.Own [.list none (rows Ty.int l)] (.l 3 1 ((fallF l).map Ty.int.q)) := by
  refine plain_own Ty.int (fun _ => rfl) (fun _ => rfl) 3 0 (l := fallF l) (F := [(3, 1, l.length)]) (by rw [fallF_len]; rfl) ?_
  refine sFalling.of rfl ?_
  repeat' first
    | contradiction | exact trivial
    | (conv => whnf
       first | refine Need.mk (fun h => h) ?_ | refine Need.mk rfl ?_ | refine Need.mk ⟨rfl, Nat.le_of_ble_eq_true rfl⟩ ?_ | refine Need.mk (Nat.le_of_ble_eq_true rfl) ?_ | refine Need.fin ?_ | refine Need.mk ?_ ?_ | refine Ix.strsF rfl ?_ | refine Ix.strs rfl ?_ ?_ | refine Cut.strs rfl ?_ ?_ | refine Ix.mapF (fun _ => rfl) ?_ | refine Ix.map (fun _ => rfl) ?_ ?_ | refine Cut.map (fun _ => rfl) ?_ ?_ | refine Fork.yes (by assumption) ?_ | refine Fork.no (by assumption) ?_ | refine Fork.decYes (by omega) ?_ | refine Fork.decNo (by omega) ?_ | refine Fork.dec (fun _ => ?_) (fun _ => ?_) | refine Fork.bne (fun _ => ?_) (fun _ => ?_) | refine Fork.beq (fun _ => ?_) (fun _ => ?_) | refine Fork.seq (fun _ => ?_) (fun _ => ?_) | refine Fork.sne (fun _ => ?_) (fun _ => ?_) | refine Fork.neg (fun _ => ?_) (fun _ => ?_) | refine Fork.mk (fun _ => ?_) (fun _ => ?_) | refine HAlt.mk ?_ ?_ | apply HJoin.mk3 | exact HEnd.mk rfl rfl rfl | refine HEnd.mk ?_ ?_ ?_ | refine Round.mk ?_ | refine NilQ.mk (fun b hb => ?_) | refine forceK_of ?_ | refine forceBx_of ?_ | refine unG_old ?_ | refine unG_gv ?_ | refine Lit.read rfl ?_ | refine LitO.box ?_ | refine FinVal.keep ?_ | refine FinAgg.keep ?_ | refine Final.mk rfl rfl | refine Final.mk ?_ rfl | refine Final.mk ?_ ?_ | refine FinalT.mk ?_ ?_ | refine FinalI.mk ?_ | refine FinalC.allA ?_)
    | refine AV.bool_congr ?_ | refine AV.int_congr ?_ | refine AV.str_congr ?_ | refine AV.list_congr ?_ | with_reducible rfl | refine fr1 ?_ | refine fr2 ?_ ?_
  refine ALoop.ren (Nat × List Int) (fun p => ⟨[(0, .list none (rows Ty.int l)), (3, .bsl 0 p.1), (4, .val (.int .i64 p.1))], [.cells (.row 3 1) (ci p.2)], []⟩) (fun p => p.1 ≤ l.length ∧ p.2.length = p.1 ∧ p.2.Perm (l.take p.1) ∧ Fall p.2) (fun p => l.length - p.1) ⟨(0, []), ⟨Nat.zero_le _, rfl, .refl _, .nil⟩, ?_⟩ (fun p hp => ?_)
  · refine ⟨[0], ?_, ?_, ?_, ⟨Nat.le_of_ble_eq_true rfl, rfl⟩, by decide, ?_⟩
    · repeat' first
        | exact trivial
        | refine And.intro ?_ ?_
        | with_reducible rfl
        | refine AV.int_congr ?_
        | refine AV.bool_congr ?_
        | refine AV.str_congr ?_
        | refine AV.list_congr ?_
        | (apply rfl)
    · exact ⟨⟨_, rfl, .cells _ _ rfl⟩, trivial⟩
    · rfl
    · exact ⟨⟨trivial, Nat.zero_lt_one, trivial, trivial⟩, trivial, trivial⟩
  obtain ⟨i, S⟩ := p
  obtain ⟨hi, hl, hperm, hfall⟩ := hp
  simp only at hi hl hperm
  by_cases hi' : i < l.length
  rotate_left
  · have e : i = l.length := by omega
    subst e
    rw [List.take_of_length_le (Nat.le_refl _)] at hperm
    have hS := fallF_is hperm hfall
    subst hS
    repeat' first
      | contradiction | exact trivial
      | (conv => whnf
         first | refine Need.mk (fun h => h) ?_ | refine Need.mk rfl ?_ | refine Need.mk ⟨rfl, Nat.le_of_ble_eq_true rfl⟩ ?_ | refine Need.mk (Nat.le_of_ble_eq_true rfl) ?_ | refine Need.finN ?_ | refine Need.mk ?_ ?_ | refine Ix.strsN rfl ?_ | refine Ix.strs rfl ?_ ?_ | refine Cut.strs rfl ?_ ?_ | refine Ix.mapN (fun _ => rfl) ?_ | refine Ix.map (fun _ => rfl) ?_ ?_ | refine Cut.map (fun _ => rfl) ?_ ?_ | refine Fork.yes (by assumption) ?_ | refine Fork.no (by assumption) ?_ | refine Fork.decY ?_ | refine Fork.andY ?_ | refine Fork.andN ?_ | refine Fork.decN ?_ | refine Fork.dec (fun _ => ?_) (fun _ => ?_) | refine Fork.bne (fun _ => ?_) (fun _ => ?_) | refine Fork.beq (fun _ => ?_) (fun _ => ?_) | refine Fork.seq (fun _ => ?_) (fun _ => ?_) | refine Fork.sne (fun _ => ?_) (fun _ => ?_) | refine Fork.neg (fun _ => ?_) (fun _ => ?_) | refine Fork.mk (fun _ => ?_) (fun _ => ?_) | refine HAlt.mk ?_ ?_ | apply HJoin.mk3 | exact HEnd.mk rfl rfl rfl | refine HEnd.mk ?_ ?_ ?_ | refine Round.mk ?_ | refine NilQ.mk (fun b hb => ?_) | refine forceK_of ?_ | refine forceBx_of ?_ | refine unG_old ?_ | refine unG_gv ?_ | refine Lit.read rfl ?_ | refine LitO.own rfl ?_ | refine FinVal.keep ?_ | refine FinAgg.keep ?_ | refine Final.mk rfl rfl | refine Final.mk ?_ rfl | refine Final.mk ?_ ?_ | refine FinalT.mk ?_ ?_ | refine FinalI.mk ?_ | refine FinalC.allA ?_)
      | refine AV.bool_congr ?_ | refine AV.int_congr ?_ | refine AV.str_congr ?_ | refine AV.list_congr ?_ | with_reducible rfl | refine fr1 ?_ | refine fr2 ?_ ?_
    conv => whnf
    refine FreezeD.flat (Freeze.mk (rows Ty.int (fallF l)) _ 3 1 rfl (by rw [ci_rows]) (by rw [length_rows, fallF_len]) (by rw [← tks_ints]; exact tks_sz Ty.int _ 0) (ci_nr _) ?_)
    repeat' first
      | contradiction | exact trivial
      | (conv => whnf
         first | refine Need.mk (fun h => h) ?_ | refine Need.mk rfl ?_ | refine Need.mk ⟨rfl, Nat.le_of_ble_eq_true rfl⟩ ?_ | refine Need.mk (Nat.le_of_ble_eq_true rfl) ?_ | refine Need.finN ?_ | refine Need.mk ?_ ?_ | refine Ix.strsN rfl ?_ | refine Ix.strs rfl ?_ ?_ | refine Cut.strs rfl ?_ ?_ | refine Ix.mapN (fun _ => rfl) ?_ | refine Ix.map (fun _ => rfl) ?_ ?_ | refine Cut.map (fun _ => rfl) ?_ ?_ | refine Fork.yes (by assumption) ?_ | refine Fork.no (by assumption) ?_ | refine Fork.decY ?_ | refine Fork.andY ?_ | refine Fork.andN ?_ | refine Fork.decN ?_ | refine Fork.dec (fun _ => ?_) (fun _ => ?_) | refine Fork.bne (fun _ => ?_) (fun _ => ?_) | refine Fork.beq (fun _ => ?_) (fun _ => ?_) | refine Fork.seq (fun _ => ?_) (fun _ => ?_) | refine Fork.sne (fun _ => ?_) (fun _ => ?_) | refine Fork.neg (fun _ => ?_) (fun _ => ?_) | refine Fork.mk (fun _ => ?_) (fun _ => ?_) | refine HAlt.mk ?_ ?_ | apply HJoin.mk3 | exact HEnd.mk rfl rfl rfl | refine HEnd.mk ?_ ?_ ?_ | refine Round.mk ?_ | refine NilQ.mk (fun b hb => ?_) | refine forceK_of ?_ | refine forceBx_of ?_ | refine unG_old ?_ | refine unG_gv ?_ | refine Lit.read rfl ?_ | refine LitO.own rfl ?_ | refine FinVal.keep ?_ | refine FinAgg.keep ?_ | refine Final.mk rfl rfl | refine Final.mk ?_ rfl | refine Final.mk ?_ ?_ | refine FinalT.mk ?_ ?_ | refine FinalI.mk ?_ | refine FinalC.allA ?_)
      | refine AV.bool_congr ?_ | refine AV.int_congr ?_ | refine AV.str_congr ?_ | refine AV.list_congr ?_ | with_reducible rfl | refine fr1 ?_ | refine fr2 ?_ ?_
  have hcl := ci_len S
  obtain ⟨x, hx⟩ : ∃ x, x = l.getD i default := ⟨_, rfl⟩
  have t1 : S.take i = S := List.take_of_length_le (by omega)
  have t2 : S.drop i = [] := List.drop_of_length_le (by omega)
  repeat' first
    | contradiction | exact trivial
    | (conv => whnf
       first | refine Need.mk (fun h => h) ?_ | refine Need.mk rfl ?_ | refine Need.mk ⟨rfl, Nat.le_of_ble_eq_true rfl⟩ ?_ | refine Need.mk (Nat.le_of_ble_eq_true rfl) ?_ | refine Need.finN ?_ | refine Need.mk ?_ ?_ | refine Ix.strsN rfl ?_ | refine Ix.strs rfl ?_ ?_ | refine Cut.strs rfl ?_ ?_ | refine Ix.mapN (fun _ => rfl) ?_ | refine Ix.map (fun _ => rfl) ?_ ?_ | refine Cut.map (fun _ => rfl) ?_ ?_ | refine Fork.yes (by assumption) ?_ | refine Fork.no (by assumption) ?_ | refine Fork.decY ?_ | refine Fork.andY ?_ | refine Fork.andN ?_ | refine Fork.decN ?_ | refine Fork.dec (fun _ => ?_) (fun _ => ?_) | refine Fork.bne (fun _ => ?_) (fun _ => ?_) | refine Fork.beq (fun _ => ?_) (fun _ => ?_) | refine Fork.seq (fun _ => ?_) (fun _ => ?_) | refine Fork.sne (fun _ => ?_) (fun _ => ?_) | refine Fork.neg (fun _ => ?_) (fun _ => ?_) | refine Fork.mk (fun _ => ?_) (fun _ => ?_) | refine HAlt.mk ?_ ?_ | apply HJoin.mk3 | exact HEnd.mk rfl rfl rfl | refine HEnd.mk ?_ ?_ ?_ | refine Round.mk ?_ | refine NilQ.mk (fun b hb => ?_) | refine forceK_of ?_ | refine forceBx_of ?_ | refine unG_old ?_ | refine unG_gv ?_ | refine Lit.read rfl ?_ | refine LitO.own rfl ?_ | refine FinVal.keep ?_ | refine FinAgg.keep ?_ | refine Final.mk rfl rfl | refine Final.mk ?_ rfl | refine Final.mk ?_ ?_ | refine FinalT.mk ?_ ?_ | refine FinalI.mk ?_ | refine FinalC.allA ?_)
    | refine AV.bool_congr ?_ | refine AV.int_congr ?_ | refine AV.str_congr ?_ | refine AV.list_congr ?_ | with_reducible rfl | refine fr1 ?_ | refine fr2 ?_ ?_
  · intro c hc; rw [List.mem_singleton.1 hc]; rfl
  · simp only [List.length_singleton]; omega
  refine ALoop.mk (Nat × Int) (fun q => ⟨[(0, .list none (rows Ty.int l)), (3, .bsl 1 (i + 1)), (4, .val (.int .i64 i)), (5, .val (.int .i64 q.1))], [.dead, .cells (.row 3 1) (ci (S.take q.1 ++ q.2 :: S.drop q.1))], []⟩) (fun q => q.1 ≤ i ∧ ∀ y ∈ S.drop q.1, y < x) (fun q => q.1) ⟨(i, x), ⟨Nat.le_refl _, by rw [List.drop_of_length_le (by omega)]; simp⟩, ?_⟩ (fun q hq => ?_)
  · repeat' first
      | exact trivial | refine Weak.mk ?_ ?_ ?_ ?_ (Or.inl (Nat.le_of_ble_eq_true rfl)) | refine Weak.mk ?_ ?_ ?_ ?_ (Or.inr ⟨(by repeat' first | exact trivial | exact Nat.le_of_ble_eq_true rfl | refine And.intro ?_ ?_), (by repeat' first | exact trivial | exact Nat.le_of_ble_eq_true rfl | refine And.intro ?_ ?_)⟩) | refine Weak.mk ?_ ?_ ?_ ?_ ?_ | refine And.intro ?_ ?_ | with_reducible rfl | exact Nat.le_of_ble_eq_true rfl | refine fr1 ?_ | refine fr2 ?_ ?_ | refine AV.int_congr ?_ | refine AV.bool_congr ?_ | refine AV.str_congr ?_ | refine AV.list_congr ?_ | refine AV.bsl_congr ?_ ?_ | (apply rfl)
    show [ABox.dead, ABox.cells _ (ci S ++ [AV.val (.int .i64 (l.getD ((i : Int)).toNat default))])] = [ABox.dead, ABox.cells _ (ci (S.take i ++ x :: S.drop i))]
    rw [t1, t2, Int.toNat_natCast, ← hx]
    simp [ci]
  obtain ⟨k, a⟩ := q
  obtain ⟨hk, hlt⟩ := hq
  simp only at hk hlt
  have hST : (S.take k).length = k := by rw [List.length_take]; omega
  have hfin : (∀ y ∈ S.take k, x ≤ y) → (S.take k ++ x :: S.drop k).Perm (l.take (i + 1)) ∧ Fall (S.take k ++ x :: S.drop k) := fun hge => by
    refine ⟨?_, Stb.put_in (R := fun a b : Int => b ≤ a) (by rw [List.take_append_drop]; exact hfall) (fun v hv => hge v hv) (fun v hv => by have := hlt v hv; omega)⟩
    rw [take_succ' default hi', ← hx]
    have h1 : (S.take k ++ x :: S.drop k).Perm (x :: (S.take k ++ S.drop k)) := List.perm_middle
    rw [List.take_append_drop] at h1
    refine h1.trans ?_
    refine (List.Perm.cons x hperm).trans ?_
    exact (List.perm_append_comm (l₁ := [x]) (l₂ := l.take i))
  cases k with
  | zero =>
    obtain ⟨f1, f2⟩ := hfin (by simp)
    repeat' first
      | contradiction | exact trivial
      | (conv => whnf
         first | refine Need.mk (fun h => h) ?_ | refine Need.mk rfl ?_ | refine Need.mk ⟨rfl, Nat.le_of_ble_eq_true rfl⟩ ?_ | refine Need.mk (Nat.le_of_ble_eq_true rfl) ?_ | refine Need.finN ?_ | refine Need.mk ?_ ?_ | refine Ix.strsN rfl ?_ | refine Ix.strs rfl ?_ ?_ | refine Cut.strs rfl ?_ ?_ | refine Ix.mapN (fun _ => rfl) ?_ | refine Ix.map (fun _ => rfl) ?_ ?_ | refine Cut.map (fun _ => rfl) ?_ ?_ | refine Fork.yes (by assumption) ?_ | refine Fork.no (by assumption) ?_ | refine Fork.decY ?_ | refine Fork.andY ?_ | refine Fork.andN ?_ | refine Fork.decN ?_ | refine Fork.dec (fun _ => ?_) (fun _ => ?_) | refine Fork.bne (fun _ => ?_) (fun _ => ?_) | refine Fork.beq (fun _ => ?_) (fun _ => ?_) | refine Fork.seq (fun _ => ?_) (fun _ => ?_) | refine Fork.sne (fun _ => ?_) (fun _ => ?_) | refine Fork.neg (fun _ => ?_) (fun _ => ?_) | refine Fork.mk (fun _ => ?_) (fun _ => ?_) | refine HAlt.mk ?_ ?_ | apply HJoin.mk3 | exact HEnd.mk rfl rfl rfl | refine HEnd.mk ?_ ?_ ?_ | refine Round.mk ?_ | refine NilQ.mk (fun b hb => ?_) | refine forceK_of ?_ | refine forceBx_of ?_ | refine unG_old ?_ | refine unG_gv ?_ | refine Lit.read rfl ?_ | refine LitO.own rfl ?_ | refine FinVal.keep ?_ | refine FinAgg.keep ?_ | refine Final.mk rfl rfl | refine Final.mk ?_ rfl | refine Final.mk ?_ ?_ | refine FinalT.mk ?_ ?_ | refine FinalI.mk ?_ | refine FinalC.allA ?_)
      | refine AV.bool_congr ?_ | refine AV.int_congr ?_ | refine AV.str_congr ?_ | refine AV.list_congr ?_ | with_reducible rfl | refine fr1 ?_ | refine fr2 ?_ ?_
    refine ⟨(i + 1, S.take 0 ++ x :: S.drop 0), ⟨hi', by simp; omega, f1, f2⟩, ?_, by simp; omega⟩
    refine ⟨[1], ?_, ?_, ?_, ⟨Nat.le_of_ble_eq_true rfl, rfl⟩, by decide, ?_⟩
    · repeat' first
        | exact trivial
        | refine And.intro ?_ ?_
        | with_reducible rfl
        | refine AV.int_congr ?_
        | refine AV.bool_congr ?_
        | refine AV.str_congr ?_
        | refine AV.list_congr ?_
        | (apply rfl)
      rw [wrap64 (by omega) (by omega)]; rfl
    · refine ⟨⟨.cells (.row 3 1) (ci (S.take 0 ++ x :: S.drop 0)), congrArg (fun c => some (ABox.cells (.row 3 1) c)) ?_, .cells _ _ (inner_nr _)⟩, trivial⟩
      rw [hx]
      exact ci_set (A := S.take 0) rfl
    · rfl
    · exact ⟨⟨trivial, Nat.zero_lt_one, trivial, trivial⟩, inBL_nr (inner_nr _), trivial⟩
  | succ m =>
    have hm : m < S.length := by omega
    have hw : IntKind.i64.wrap (((m + 1 : Nat) : Int) - 1) = (m : Int) := by rw [wrap64 (by omega) (by omega)]; omega
    have hw2 : (IntKind.i64.wrap (((m + 1 : Nat) : Int) - 1)).toNat * 1 = m := by rw [hw]; omega
    have htk : S.take (m + 1) = S.take m ++ [S.getD m default] := take_succ' default hm
    have hdr : S.drop m = S.getD m default :: S.drop (m + 1) := by rw [List.drop_eq_getElem_cons hm]; simp [List.getD, hm]
    have hd : (ci (S.take (m + 1) ++ a :: S.drop (m + 1))).drop ((IntKind.i64.wrap (((m + 1 : Nat) : Int) - 1)).toNat * 1) = .val (.int .i64 (S.getD m default)) :: ci (a :: S.drop (m + 1)) := by
      rw [hw2, htk, List.append_assoc]
      exact ci_drop (by rw [List.length_take]; omega)
    by_cases hc : S.getD m default < x
    · have hxx : S.getD m default < l.getD i default := hx ▸ hc
      repeat' first
        | contradiction | exact trivial
        | (conv => whnf
           first | refine Need.mk (fun h => h) ?_ | refine Need.mk rfl ?_ | refine Need.mk ⟨rfl, Nat.le_of_ble_eq_true rfl⟩ ?_ | refine Need.mk (Nat.le_of_ble_eq_true rfl) ?_ | refine Need.finN ?_ | refine Need.mk ?_ ?_ | refine Ix.strsN rfl ?_ | refine Ix.strs rfl ?_ ?_ | refine Cut.strs rfl ?_ ?_ | refine Ix.mapN (fun _ => rfl) ?_ | refine Ix.map (fun _ => rfl) ?_ ?_ | refine Cut.map (fun _ => rfl) ?_ ?_ | refine Fork.yes (by assumption) ?_ | refine Fork.no (by assumption) ?_ | refine Fork.decY ?_ | refine Fork.andY ?_ | refine Fork.andN ?_ | refine Fork.decN ?_ | refine Fork.dec (fun _ => ?_) (fun _ => ?_) | refine Fork.bne (fun _ => ?_) (fun _ => ?_) | refine Fork.beq (fun _ => ?_) (fun _ => ?_) | refine Fork.seq (fun _ => ?_) (fun _ => ?_) | refine Fork.sne (fun _ => ?_) (fun _ => ?_) | refine Fork.neg (fun _ => ?_) (fun _ => ?_) | refine Fork.mk (fun _ => ?_) (fun _ => ?_) | refine HAlt.mk ?_ ?_ | apply HJoin.mk3 | exact HEnd.mk rfl rfl rfl | refine HEnd.mk ?_ ?_ ?_ | refine Round.mk ?_ | refine NilQ.mk (fun b hb => ?_) | refine forceK_of ?_ | refine forceBx_of ?_ | refine unG_old ?_ | refine unG_gv ?_ | refine Lit.read rfl ?_ | refine LitO.own rfl ?_ | refine FinVal.keep ?_ | refine FinAgg.keep ?_ | refine Final.mk rfl rfl | refine Final.mk ?_ rfl | refine Final.mk ?_ ?_ | refine FinalT.mk ?_ ?_ | refine FinalI.mk ?_ | refine FinalC.allA ?_)
        | refine AV.bool_congr ?_ | refine AV.int_congr ?_ | refine AV.str_congr ?_ | refine AV.list_congr ?_ | with_reducible rfl | refine fr1 ?_ | refine fr2 ?_ ?_
      conv => whnf
      refine takeAV_one (n := 1) _ _ hd ?_
      repeat' first
        | contradiction | exact trivial
        | (conv => whnf
           first | refine Need.mk (fun h => h) ?_ | refine Need.mk rfl ?_ | refine Need.mk ⟨rfl, Nat.le_of_ble_eq_true rfl⟩ ?_ | refine Need.mk (Nat.le_of_ble_eq_true rfl) ?_ | refine Need.finN ?_ | refine Need.mk ?_ ?_ | refine Ix.strsN rfl ?_ | refine Ix.strs rfl ?_ ?_ | refine Cut.strs rfl ?_ ?_ | refine Ix.mapN (fun _ => rfl) ?_ | refine Ix.map (fun _ => rfl) ?_ ?_ | refine Cut.map (fun _ => rfl) ?_ ?_ | refine Fork.yes (by assumption) ?_ | refine Fork.no (by assumption) ?_ | refine Fork.decY ?_ | refine Fork.andY ?_ | refine Fork.andN ?_ | refine Fork.decN ?_ | refine Fork.dec (fun _ => ?_) (fun _ => ?_) | refine Fork.bne (fun _ => ?_) (fun _ => ?_) | refine Fork.beq (fun _ => ?_) (fun _ => ?_) | refine Fork.seq (fun _ => ?_) (fun _ => ?_) | refine Fork.sne (fun _ => ?_) (fun _ => ?_) | refine Fork.neg (fun _ => ?_) (fun _ => ?_) | refine Fork.mk (fun _ => ?_) (fun _ => ?_) | refine HAlt.mk ?_ ?_ | apply HJoin.mk3 | exact HEnd.mk rfl rfl rfl | refine HEnd.mk ?_ ?_ ?_ | refine Round.mk ?_ | refine NilQ.mk (fun b hb => ?_) | refine forceK_of ?_ | refine forceBx_of ?_ | refine unG_old ?_ | refine unG_gv ?_ | refine Lit.read rfl ?_ | refine LitO.own rfl ?_ | refine FinVal.keep ?_ | refine FinAgg.keep ?_ | refine Final.mk rfl rfl | refine Final.mk ?_ rfl | refine Final.mk ?_ ?_ | refine FinalT.mk ?_ ?_ | refine FinalI.mk ?_ | refine FinalC.allA ?_)
        | refine AV.bool_congr ?_ | refine AV.int_congr ?_ | refine AV.str_congr ?_ | refine AV.list_congr ?_ | with_reducible rfl | refine fr1 ?_ | refine fr2 ?_ ?_
      conv => whnf
      refine takeAV_one (n := 1) _ _ hd ?_
      repeat' first
        | contradiction | exact trivial
        | (conv => whnf
           first | refine Need.mk (fun h => h) ?_ | refine Need.mk rfl ?_ | refine Need.mk ⟨rfl, Nat.le_of_ble_eq_true rfl⟩ ?_ | refine Need.mk (Nat.le_of_ble_eq_true rfl) ?_ | refine Need.finN ?_ | refine Need.mk ?_ ?_ | refine Ix.strsN rfl ?_ | refine Ix.strs rfl ?_ ?_ | refine Cut.strs rfl ?_ ?_ | refine Ix.mapN (fun _ => rfl) ?_ | refine Ix.map (fun _ => rfl) ?_ ?_ | refine Cut.map (fun _ => rfl) ?_ ?_ | refine Fork.yes (by assumption) ?_ | refine Fork.no (by assumption) ?_ | refine Fork.decY ?_ | refine Fork.andY ?_ | refine Fork.andN ?_ | refine Fork.decN ?_ | refine Fork.dec (fun _ => ?_) (fun _ => ?_) | refine Fork.bne (fun _ => ?_) (fun _ => ?_) | refine Fork.beq (fun _ => ?_) (fun _ => ?_) | refine Fork.seq (fun _ => ?_) (fun _ => ?_) | refine Fork.sne (fun _ => ?_) (fun _ => ?_) | refine Fork.neg (fun _ => ?_) (fun _ => ?_) | refine Fork.mk (fun _ => ?_) (fun _ => ?_) | refine HAlt.mk ?_ ?_ | apply HJoin.mk3 | exact HEnd.mk rfl rfl rfl | refine HEnd.mk ?_ ?_ ?_ | refine Round.mk ?_ | refine NilQ.mk (fun b hb => ?_) | refine forceK_of ?_ | refine forceBx_of ?_ | refine unG_old ?_ | refine unG_gv ?_ | refine Lit.read rfl ?_ | refine LitO.own rfl ?_ | refine FinVal.keep ?_ | refine FinAgg.keep ?_ | refine Final.mk rfl rfl | refine Final.mk ?_ rfl | refine Final.mk ?_ ?_ | refine FinalT.mk ?_ ?_ | refine FinalI.mk ?_ | refine FinalC.allA ?_)
        | refine AV.bool_congr ?_ | refine AV.int_congr ?_ | refine AV.str_congr ?_ | refine AV.list_congr ?_ | with_reducible rfl | refine fr1 ?_ | refine fr2 ?_ ?_
      · refine ⟨rfl, ?_⟩
        show (((m + 1 : Nat) : Int)).toNat * 1 + 1 ≤ (ci (S.take (m + 1) ++ a :: S.drop (m + 1))).length
        rw [ci_len, List.length_append, List.length_cons, hST]; omega
      refine ⟨(m, S.getD m default), ⟨by simp only; omega, fun y hy => ?_⟩, ?_, Nat.lt_succ_self m⟩
      · simp only at hy
        rw [hdr] at hy
        rcases List.mem_cons.1 hy with rfl | hy
        · exact hc
        · exact hlt y hy
      · repeat' first
          | exact trivial | refine Weak.mk ?_ ?_ ?_ ?_ (Or.inl (Nat.le_of_ble_eq_true rfl)) | refine Weak.mk ?_ ?_ ?_ ?_ (Or.inr ⟨(by repeat' first | exact trivial | exact Nat.le_of_ble_eq_true rfl | refine And.intro ?_ ?_), (by repeat' first | exact trivial | exact Nat.le_of_ble_eq_true rfl | refine And.intro ?_ ?_)⟩) | refine Weak.mk ?_ ?_ ?_ ?_ ?_ | refine And.intro ?_ ?_ | with_reducible rfl | exact Nat.le_of_ble_eq_true rfl | refine fr1 ?_ | refine fr2 ?_ ?_ | refine AV.int_congr ?_ | refine AV.bool_congr ?_ | refine AV.str_congr ?_ | refine AV.list_congr ?_ | refine AV.bsl_congr ?_ ?_ | (apply rfl)
        · exact hw
        · show [ABox.dead, ABox.cells _ ((ci (S.take (m + 1) ++ a :: S.drop (m + 1))).set ((((m + 1 : Nat) : Int)).toNat * 1) (.val (.int .i64 (S.getD m default))))] = [ABox.dead, ABox.cells _ (ci (S.take m ++ S.getD m default :: S.drop m))]
          rw [ci_set (by rw [hST]; omega), htk, hdr, List.append_assoc]; rfl
    · have hxx : ¬ S.getD m default < l.getD i default := hx ▸ hc
      obtain ⟨f1, f2⟩ := hfin (fun y hy => by
        rw [htk] at hy
        rcases List.mem_append.1 hy with hy | hy
        · have h5 : Fall (S.take m ++ S.drop m) := by rw [List.take_append_drop]; exact hfall
          rw [hdr] at h5
          have := (List.pairwise_append.1 h5).2.2 y hy (S.getD m default) (by simp)
          omega
        · rw [List.mem_singleton.1 hy]; omega)
      repeat' first
        | contradiction | exact trivial
        | (conv => whnf
           first | refine Need.mk (fun h => h) ?_ | refine Need.mk rfl ?_ | refine Need.mk ⟨rfl, Nat.le_of_ble_eq_true rfl⟩ ?_ | refine Need.mk (Nat.le_of_ble_eq_true rfl) ?_ | refine Need.finN ?_ | refine Need.mk ?_ ?_ | refine Ix.strsN rfl ?_ | refine Ix.strs rfl ?_ ?_ | refine Cut.strs rfl ?_ ?_ | refine Ix.mapN (fun _ => rfl) ?_ | refine Ix.map (fun _ => rfl) ?_ ?_ | refine Cut.map (fun _ => rfl) ?_ ?_ | refine Fork.yes (by assumption) ?_ | refine Fork.no (by assumption) ?_ | refine Fork.decY ?_ | refine Fork.andY ?_ | refine Fork.andN ?_ | refine Fork.decN ?_ | refine Fork.dec (fun _ => ?_) (fun _ => ?_) | refine Fork.bne (fun _ => ?_) (fun _ => ?_) | refine Fork.beq (fun _ => ?_) (fun _ => ?_) | refine Fork.seq (fun _ => ?_) (fun _ => ?_) | refine Fork.sne (fun _ => ?_) (fun _ => ?_) | refine Fork.neg (fun _ => ?_) (fun _ => ?_) | refine Fork.mk (fun _ => ?_) (fun _ => ?_) | refine HAlt.mk ?_ ?_ | apply HJoin.mk3 | exact HEnd.mk rfl rfl rfl | refine HEnd.mk ?_ ?_ ?_ | refine Round.mk ?_ | refine NilQ.mk (fun b hb => ?_) | refine forceK_of ?_ | refine forceBx_of ?_ | refine unG_old ?_ | refine unG_gv ?_ | refine Lit.read rfl ?_ | refine LitO.own rfl ?_ | refine FinVal.keep ?_ | refine FinAgg.keep ?_ | refine Final.mk rfl rfl | refine Final.mk ?_ rfl | refine Final.mk ?_ ?_ | refine FinalT.mk ?_ ?_ | refine FinalI.mk ?_ | refine FinalC.allA ?_)
        | refine AV.bool_congr ?_ | refine AV.int_congr ?_ | refine AV.str_congr ?_ | refine AV.list_congr ?_ | with_reducible rfl | refine fr1 ?_ | refine fr2 ?_ ?_
      conv => whnf
      refine takeAV_one (n := 1) _ _ hd ?_
      repeat' first
        | contradiction | exact trivial
        | (conv => whnf
           first | refine Need.mk (fun h => h) ?_ | refine Need.mk rfl ?_ | refine Need.mk ⟨rfl, Nat.le_of_ble_eq_true rfl⟩ ?_ | refine Need.mk (Nat.le_of_ble_eq_true rfl) ?_ | refine Need.finN ?_ | refine Need.mk ?_ ?_ | refine Ix.strsN rfl ?_ | refine Ix.strs rfl ?_ ?_ | refine Cut.strs rfl ?_ ?_ | refine Ix.mapN (fun _ => rfl) ?_ | refine Ix.map (fun _ => rfl) ?_ ?_ | refine Cut.map (fun _ => rfl) ?_ ?_ | refine Fork.yes (by assumption) ?_ | refine Fork.no (by assumption) ?_ | refine Fork.decY ?_ | refine Fork.andY ?_ | refine Fork.andN ?_ | refine Fork.decN ?_ | refine Fork.dec (fun _ => ?_) (fun _ => ?_) | refine Fork.bne (fun _ => ?_) (fun _ => ?_) | refine Fork.beq (fun _ => ?_) (fun _ => ?_) | refine Fork.seq (fun _ => ?_) (fun _ => ?_) | refine Fork.sne (fun _ => ?_) (fun _ => ?_) | refine Fork.neg (fun _ => ?_) (fun _ => ?_) | refine Fork.mk (fun _ => ?_) (fun _ => ?_) | refine HAlt.mk ?_ ?_ | apply HJoin.mk3 | exact HEnd.mk rfl rfl rfl | refine HEnd.mk ?_ ?_ ?_ | refine Round.mk ?_ | refine NilQ.mk (fun b hb => ?_) | refine forceK_of ?_ | refine forceBx_of ?_ | refine unG_old ?_ | refine unG_gv ?_ | refine Lit.read rfl ?_ | refine LitO.own rfl ?_ | refine FinVal.keep ?_ | refine FinAgg.keep ?_ | refine Final.mk rfl rfl | refine Final.mk ?_ rfl | refine Final.mk ?_ ?_ | refine FinalT.mk ?_ ?_ | refine FinalI.mk ?_ | refine FinalC.allA ?_)
        | refine AV.bool_congr ?_ | refine AV.int_congr ?_ | refine AV.str_congr ?_ | refine AV.list_congr ?_ | with_reducible rfl | refine fr1 ?_ | refine fr2 ?_ ?_
      · refine ⟨rfl, ?_⟩
        show (((m + 1 : Nat) : Int)).toNat * 1 + 1 ≤ (ci (S.take (m + 1) ++ a :: S.drop (m + 1))).length
        rw [ci_len, List.length_append, List.length_cons, hST]; omega
      refine ⟨(i + 1, S.take (m + 1) ++ x :: S.drop (m + 1)), ⟨hi', by simp; omega, f1, f2⟩, ?_, by simp; omega⟩
      refine ⟨[1], ?_, ?_, ?_, ⟨Nat.le_of_ble_eq_true rfl, rfl⟩, by decide, ?_⟩
      · repeat' first
          | exact trivial
          | refine And.intro ?_ ?_
          | with_reducible rfl
          | refine AV.int_congr ?_
          | refine AV.bool_congr ?_
          | refine AV.str_congr ?_
          | refine AV.list_congr ?_
          | (apply rfl)
        rw [wrap64 (by omega) (by omega)]; rfl
      · refine ⟨⟨.cells (.row 3 1) (ci (S.take (m + 1) ++ x :: S.drop (m + 1))), congrArg (fun c => some (ABox.cells (.row 3 1) c)) ?_, .cells _ _ (inner_nr _)⟩, trivial⟩
        rw [hx]
        exact ci_set (by rw [hST]; simp)
      · rfl
      · exact ⟨⟨trivial, Nat.zero_lt_one, trivial, trivial⟩, inBL_nr (inner_nr _), trivial⟩
end Go.Proofs.Ytplfkocigmnpmaa
namespace Go.Proofs
open Go.RowKit Go.Shelf
def Try.sortI_ren : Go.Shelf.Ren := ⟨fun | 6 => 54 | 15 => 93 | 14 => 92 | 28 => 116 | 29 => 117 | 20 => 108 | 21 => 109 | 22 => 110 | 23 => 111 | 24 => 112 | 25 => 113 | 26 => 114 | 27 => 115 | 46 => 130 | 47 => 131 | 48 => 132 | 49 => 133 | 50 => 134 | 57 => 141 | n => n, fun | 22 => 24 | 24 => 3 | 25 => 84 | 3 => 3 | 39 => 121 | 0 => 0 | 53 => 139 | 55 => 141 | 4 => 4 | 46 => 132 | 45 => 131 | 50 => 136 | 5 => 5 | 9 => 9 | 66 => 152 | 70 => 156 | 76 => 160 | 77 => 161 | n => n, fun | n => n⟩
theorem Try.sortI : Go.Proofs.SlLaysF.n6 Try.prog Try.sortI_ren := {
  mixed := by kernel_rfl
  f6 := ⟨Try.f54.name, by decide, Try.func54.trans (congrArg some (by kernel_rfl))⟩
  f14 := ⟨Try.f92.name, by decide, Try.func92.trans (congrArg some (by kernel_rfl))⟩
  f15 := Try.func93.trans (congrArg some (by kernel_rfl))
  f20 := ⟨Try.f108.name, by decide, Try.func108.trans (congrArg some (by kernel_rfl))⟩
  f21 := ⟨Try.f109.name, by decide, Try.func109.trans (congrArg some (by kernel_rfl))⟩
  f22 := ⟨Try.f110.name, by decide, Try.func110.trans (congrArg some (by kernel_rfl))⟩
  f23 := ⟨Try.f111.name, by decide, Try.func111.trans (congrArg some (by kernel_rfl))⟩
  f24 := ⟨Try.f112.name, by decide, Try.func112.trans (congrArg some (by kernel_rfl))⟩
  f25 := ⟨Try.f113.name, by decide, Try.func113.trans (congrArg some (by kernel_rfl))⟩
  f26 := ⟨Try.f114.name, by decide, Try.func114.trans (congrArg some (by kernel_rfl))⟩
  f27 := ⟨Try.f115.name, by decide, Try.func115.trans (congrArg some (by kernel_rfl))⟩
  f28 := Try.func116.trans (congrArg some (by kernel_rfl))
  f29 := Try.func117.trans (congrArg some (by kernel_rfl))
  f46 := ⟨Try.f130.name, by decide, Try.func130.trans (congrArg some (by kernel_rfl))⟩
  f47 := Try.func131.trans (congrArg some (by kernel_rfl))
  f48 := Try.func132.trans (congrArg some (by kernel_rfl))
  f49 := ⟨Try.f133.name, by decide, Try.func133.trans (congrArg some (by kernel_rfl))⟩
  f50 := ⟨Try.f134.name, by decide, Try.func134.trans (congrArg some (by kernel_rfl))⟩
  f57 := ⟨Try.f141.name, by decide, Try.func141.trans (congrArg some (by kernel_rfl))⟩
  t0 := Try.underlying0
  a0 := Try.isAgg0
  z0 := Try.sizeOf0
  v0 := Try.zeroValue0
  t3 := Try.underlying3
  a3 := Try.isAgg3
  z3 := Try.sizeOf3
  v3 := Try.zeroValue3
  t4 := Try.underlying4
  a4 := Try.isAgg4
  z4 := Try.sizeOf4
  v4 := Try.zeroValue4
  t5 := Try.underlying5
  a5 := Try.isAgg5
  z5 := Try.sizeOf5
  v5 := Try.zeroValue5
  t9 := Try.underlying9
  a9 := Try.isAgg9
  z9 := Try.sizeOf9
  v9 := Try.zeroValue9
  t22 := Try.underlying24
  a22 := Try.isAgg24
  z22 := Try.sizeOf24
  v22 := Try.zeroValue24
  a24 := Try.isAgg3
  z24 := Try.sizeOf3
  t25 := Try.underlying84
  a25 := Try.isAgg84
  z25 := Try.sizeOf84
  v25 := Try.zeroValue84
  t39 := Try.underlying121
  a39 := Try.isAgg121
  z39 := Try.sizeOf121
  v39 := Try.zeroValue121
  t45 := Try.underlying131
  a45 := Try.isAgg131
  z45 := Try.sizeOf131
  v45 := Try.zeroValue131
  t46 := Try.underlying132
  a46 := Try.isAgg132
  z46 := Try.sizeOf132
  v46 := Try.zeroValue132
  t50 := Try.underlying136
  a50 := Try.isAgg136
  z50 := Try.sizeOf136
  v50 := Try.zeroValue136
  t53 := Try.underlying139
  a53 := Try.isAgg139
  z53 := Try.sizeOf139
  v53 := Try.zeroValue139
  t55 := Try.underlying141
  a55 := Try.isAgg141
  z55 := Try.sizeOf141
  v55 := Try.zeroValue141
  t66 := Try.underlying152
  a66 := Try.isAgg152
  z66 := Try.sizeOf152
  v66 := Try.zeroValue152
  t70 := Try.underlying156
  a70 := Try.isAgg156
  z70 := Try.sizeOf156
  v70 := Try.zeroValue156
  t76 := Try.underlying160
  a76 := Try.isAgg160
  z76 := Try.sizeOf160
  v76 := Try.zeroValue160
  t77 := Try.underlying161
  a77 := Try.isAgg161
  z77 := Try.sizeOf161
  v77 := Try.zeroValue161 }
end Go.Proofs
namespace Go.Proofs.Ytplfkocigmnpmaa
open Abs Go.RowKit Go.Sort Go.Lib Go.Shelf
theorem grow_of_bel9 {W w' : World} (h : Bel true W.heap.size W w') : ∃ q os', w' = grow (W.drewN q) os' := by
  refine ⟨w'.drawn - W.drawn, w'.heap.extract W.heap.size w'.heap.size, ?_⟩
  have hd := h.drawn rfl
  have hs := h.size
  have hh : w'.heap = W.heap ++ w'.heap.extract W.heap.size w'.heap.size := by
    apply Array.ext
    · simp; omega
    · intro i h1 h2
      by_cases hi : i < W.heap.size
      · rw [Array.getElem_append_left hi]
        have := h.block i hi
        rw [Array.getElem?_eq_getElem h1, Array.getElem?_eq_getElem hi] at this
        exact Option.some.inj this
      · rw [Array.getElem_append_right (by omega), Array.getElem_extract]
        congr 1; omega
  have e1 := h.os
  have e2 := h.tape
  have e3 := h.output
  cases w' with
  | mk heap tape drawn os output =>
    simp only [grow, World.drewN] at *
    rw [← hh, e1, e2, e3]
    congr 1; omega
def encI (n : Int) : Value := .int .i64 n
theorem ints_of_box {B : Nat} {w : World} {F : Nat → Nat} {box : List BId} {b cap t : Nat} {ss : List Int} (h : BoxOk B w F [] [] box (.blk b cap) (.cells (.row t 1) (ci ss))) :
    ∃ c : Array Value, w.heap[b]? = some (.cells c t (0, 0)) ∧ ss.length ≤ c.size ∧ (∀ (i : Nat) s, ss[i]? = some s → c[i]? = some (encI s)) ∧ c.size = cap ∧ cap ≤ maxLen := by
  obtain ⟨c, t', hh, hle, hr, rfl, hcs, hcm⟩ := h
  rw [ci_len] at hle
  refine ⟨c, hh, hle, fun i s hi => ?_, by omega, hcm⟩
  have hlt := getElem?_lt hi
  have hx := (hr i (.val (.int .i64 s)) (by rw [ci, List.getElem?_map, hi]; rfl)).1
  have hc : c[i]? = some (c.getD i undef) := by simp [Array.getD, show i < c.size by omega]
  rw [hc, hx.val_inv]; rfl
theorem ints_both {B : Nat} {w : World} {F : Nat → Nat} {box : List BId} (ss : List Int) : Both (Rep B w F [] [] box) (ci ss) (ss.map encI) := by
  refine ⟨by simp [ci], fun i x y hx hy => ?_⟩
  rw [ci, List.getElem?_map] at hx
  rw [List.getElem?_map] at hy
  cases hi : ss[i]? with
  | none => rw [hi] at hx; cases hx
  | some s => rw [hi] at hx hy; cases hx; cases hy; exact .val _
theorem holds_ints {w : World} {b t : Nat} {ss : List Int} {c : Array Value} (hh : w.heap[b]? = some (.cells c t (0, 0))) (hc : ∀ (i : Nat) s, ss[i]? = some s → c[i]? = some (encI s)) : Holds encI w b 0 ss.toArray := by
  intro i hi
  have hi' : i < ss.length := by simpa using hi
  have h1 := hc i _ (List.getElem?_eq_getElem hi')
  have e1 : ss.toArray[i]! = ss[i] := by simp [hi']
  rw [e1, Nat.zero_add]
  refine ⟨by rw [cell_of_row w b i c t (0, 0) hh, h1], ?_⟩
  simp [World.frozen?, hh]
theorem cmpN_neg (a b : Int) : cmpN a b < 0 ↔ a < b := by
  unfold cmpN
  split
  · simp_all
  · split <;> simp_all
theorem swo_fall : SWO (ltOf fun a b : Int => cmpN b a) := by
  have e : ∀ a b : Int, ltOf (fun a b : Int => cmpN b a) a b = decide (b < a) := fun a b => by
    unfold ltOf; rw [Bool.eq_iff_iff]; simp [cmpN_neg]
  refine ⟨fun x => by rw [e]; simp, fun x y z h1 h2 => ?_, fun x y z h1 h2 => ?_⟩
  · rw [e] at *; simp at *; omega
  · rw [e] at *; simp at *; omega
theorem slSortI.ctx (b : List ABox) (j : Nat) (ss : List Int) (hj : b[j]? = some (.cells (.row 3 1) (ci ss))) (hn : ss.length ≤ 1048576) :
    slSortI.Ctx b [.bsl j ss.length, .clo 55 [] []] (fun r b1 => r = .tup [] ∧ b1 = b.set j (.cells (.row 3 1) (ci (fallF ss)))) := by
  unfold slSortI.Ctx
  rw [Ctx_eq]
  refine ⟨by kernel_rfl, fun w F vs box0 hcond hout hbl hbi hbj hB hargs => ?_⟩
  obtain ⟨v0, v1, rfl⟩ : ∃ v0 v1, vs = #[v0, v1] := by
    have := hargs.1
    match vs, this with
    | ⟨[a, b]⟩, _ => exact ⟨a, b, rfl⟩
  obtain ⟨h0', h1⟩ := Both.cons.1 hargs
  obtain ⟨h1, _⟩ := Both.cons.1 h1
  obtain rfl : v1 = .func (.func 55) #[] #[] := by
    cases h1 with
    | clo _ _ _ vf vc e1 e2 _ _ =>
      have : vf = #[] := Array.eq_empty_of_size_eq_zero e1.symm
      have : vc = #[] := Array.eq_empty_of_size_eq_zero e2.symm
      subst_vars; rfl
  by_cases h0 : 0 < ss.length
  rotate_left
  · have hs0 : ss = [] := List.eq_nil_of_length_eq_zero (by omega)
    subst hs0
    have hnone : ∀ (p : Option Addr) (cap : Nat), v0 = .slice p 0 cap → Calls Try.prog 54 #[v0, .func (.func 55) #[] #[]] w fun e w' => e = .returned (.tuple #[]) ∧ w' = w := fun p cap e => by
      subst e; exact AnyF.slices_SortFunc_none { Try.sortI with } p cap _ w
    have hn2 : Calls Try.prog 54 #[v0, .func (.func 55) #[] #[]] w fun e w' => e = .returned (.tuple #[]) ∧ w' = w := by
      rcases h0'.bsl_inv with ⟨bl, cap, hb, hcap, e⟩ | ⟨hb, hz, e⟩
      · exact hnone _ _ e
      · exact hnone _ _ e
    refine hn2.mono ?_
    rintro e w' ⟨rfl, rfl⟩
    exact gpost_same hout hbl hbi hbj hB rfl (.tup [] #[] rfl (by simp)) ⟨rfl, by rw [show fallF [] = [] from List.eq_nil_of_length_eq_zero (fallF_len []), set_self hj]⟩
  rcases h0'.bsl_inv with ⟨bl, cap, hb, hcap, rfl⟩ | ⟨hb, hz, rfl⟩
  rotate_left
  · omega
  obtain ⟨c, hh, hle, hc, hcs, hcm⟩ := ints_of_box (hB j _ _ hb hj)
  have hblk := (hbi j bl cap hb).1
  have hW : ∀ (m : Nat) (os : Array Obj) (dk : Array Int), ∀ k, k < w.heap.size → k ≠ bl → (sortWorld encI w bl 0 m dk os).heap[k]? = w.heap[k]? := fun m os dk k hk hkb => by
    unfold sortWorld
    rw [heap_grow _ _ _ (by simpa using hk), heap_putRow_other _ _ _ _ _ _ hkb]; rfl
  have hWs : ∀ (m : Nat) (os : Array Obj) (dk : Array Int), w.heap.size ≤ (sortWorld encI w bl 0 m dk os).heap.size := fun m os dk => by
    unfold sortWorld; simp [grow, putRow, mapBlock, Sort.ahead]
  have hcw : ∀ (m : Nat) (os : Array Obj) (dk : Array Int), CondB (sortWorld encI w bl 0 m dk os) [] := fun m os dk p hp => by
    obtain ⟨⟨t, z, e⟩, hnb⟩ := hcond p hp
    refine ⟨⟨t, z, ?_⟩, fun j c hj => by simp at hj⟩
    rw [hW m os dk p.1 (Array.getElem?_eq_some_iff.1 e).1 (fun he => hnb j cap (he ▸ hb))]; exact e
  have hcmp : CmpLays1 Try.prog 55 #[] encI (fun a b : Int => cmpN b a) bl 0 ss.toArray.size w := fun m os dk _ x y => by
    have h := pgreaterFirst.ret x y
    unfold pgreaterFirst.Ret at h
    rw [Ret_eq] at h
    refine (h.2 (sortWorld encI w bl 0 m dk os) (fun _ => 0) #[encI x, encI y] (hcw m os dk) (fun _ _ => rfl) (Both.cons.2 ⟨.val _, Both.cons.2 ⟨.val _, rfl, fun i x u h => by simp at h⟩⟩)).mono ?_
    rintro e w' ⟨v, F', tok, box, rfl, hbel, _, _, _, _, _, hrep⟩
    exact ⟨by rw [hrep.val_inv], grow_of_bel9 hbel⟩
  have hcall := Any.slices_SortFunc Try.sortI encI (fun _ => rfl) (fun a b : Int => cmpN b a) swo_fall 55 #[] bl 0 cap ss.toArray w
    (enters_of Try.func55 (by kernel_rfl) rfl) hcmp (holds_ints hh hc) hblk (by simp; omega)
  simp only [List.size_toArray] at hcall
  refine hcall.mono ?_
  rintro e w' ⟨rfl, d', n, os, hp, hsd, hw⟩
  have hds : d'.size = ss.length := by simpa using hp.1
  have hS : d'.toList = fallF ss := by
    refine fallF_is ?_ ?_
    · have ex : ∀ (n : Nat) (a : Array Int), a.size = n → a.extract 0 n = a := fun n a h => by subst h; simp
      have hp2 := hp.2.2
      rw [ex _ _ (by simpa using hds), ex _ _ (by simp)] at hp2
      simpa using hp2
    · unfold Fall
      rw [List.pairwise_iff_getElem]
      intro i k hi hk hik
      simp only [Array.length_toList] at hi hk
      have h := hsd i k (Nat.zero_le _) hik (by omega)
      rw [getElem!_pos d' k hk, getElem!_pos d' i hi] at h
      have h := of_decide_eq_false h
      rw [cmpN_neg] at h
      simp only [Array.getElem_toList]
      omega
  have hh' : w'.heap[bl]? = some (.cells (putCells encI 0 d' c) 3 (0, 0)) := by
    rw [hw]
    unfold sortWorld
    rw [heap_grow _ _ _ (by simpa using hblk)]
    exact heap_putRow encI (Sort.ahead w n) bl 0 d' c _ (0, 0) hh
  have hk : ∀ k, k < w.heap.size → k ≠ bl → w'.heap[k]? = w.heap[k]? := fun k hk hkb => by rw [hw]; exact hW n os d' k hk hkb
  refine gpost_row (w' := w') (Φ := fun r b1 => r = .tup [] ∧ b1 = b.set j (.cells (.row 3 1) (ci (fallF ss)))) (v := .tuple #[]) (r := .tup []) hout hbl hbi hbj hB hb hj
    (by rw [hw]; unfold sortWorld; simp [grow, putRow, mapBlock, Sort.ahead]) (by rw [hw]; rfl) (by rw [hw]; rfl) (by rw [hw]; rfl) (by rw [hw]; exact hWs n os d') hk (fun _ => ?_) rfl (.tup [] #[] rfl (by simp)) ⟨rfl, rfl⟩
  refine boxOk_row (c := putCells encI 0 d' c) (vals := (fallF ss).map encI) (rest := c.toList.drop (fallF ss).length) hh' ?_ (ints_both _) (fun u hu => ?_) ?_ hcm
  · rw [putCells_zero _ _ _ (by omega), hS, fallF_len, hds]
  · obtain ⟨s, _, rfl⟩ := List.mem_map.1 hu; rfl
  · simp [fallF_len]; omega
theorem slCloneI.ret (l : List Int) (h : l.length ≤ 1048576) : slCloneI.Ret [.list none (rows Ty.int l)] (.list (some 0) (rows Ty.int l)) [(3, 1, l.length)] := by
  refine slCloneI.of rfl ?_
  have hrl : (rows Ty.int l).length = l.length := length_rows _ _
  repeat' first
    | contradiction | exact trivial
    | (conv => whnf
       first | refine Need.mk (fun h => h) ?_ | refine Need.mk rfl ?_ | refine Need.mk ⟨rfl, Nat.le_of_ble_eq_true rfl⟩ ?_ | refine Need.mk (Nat.le_of_ble_eq_true rfl) ?_ | refine Need.fin ?_ | refine Need.mk ?_ ?_ | refine Ix.strsF rfl ?_ | refine Ix.strs rfl ?_ ?_ | refine Cut.strs rfl ?_ ?_ | refine Ix.mapF (fun _ => rfl) ?_ | refine Ix.map (fun _ => rfl) ?_ ?_ | refine Cut.map (fun _ => rfl) ?_ ?_ | refine Fork.yes (by assumption) ?_ | refine Fork.no (by assumption) ?_ | refine Fork.decYes (by omega) ?_ | refine Fork.decNo (by omega) ?_ | refine Fork.dec (fun _ => ?_) (fun _ => ?_) | refine Fork.bne (fun _ => ?_) (fun _ => ?_) | refine Fork.beq (fun _ => ?_) (fun _ => ?_) | refine Fork.seq (fun _ => ?_) (fun _ => ?_) | refine Fork.sne (fun _ => ?_) (fun _ => ?_) | refine Fork.neg (fun _ => ?_) (fun _ => ?_) | refine Fork.mk (fun _ => ?_) (fun _ => ?_) | refine HAlt.mk ?_ ?_ | apply HJoin.mk3 | exact HEnd.mk rfl rfl rfl | refine HEnd.mk ?_ ?_ ?_ | refine Round.mk ?_ | refine NilQ.mk (fun b hb => ?_) | refine forceK_of ?_ | refine forceBx_of ?_ | refine unG_old ?_ | refine unG_gv ?_ | refine Lit.read rfl ?_ | refine LitO.own rfl ?_ | refine FinVal.nil 3 1 rfl ?_ | refine FinVal.keep ?_ | refine FinAgg.keep ?_ | refine Final.mk rfl rfl | refine Final.mk ?_ rfl | refine Final.mk ?_ ?_ | refine FinalT.mk ?_ ?_ | refine FinalI.mk ?_ | refine FinalC.allA ?_)
    | refine AV.bool_congr ?_ | refine AV.int_congr ?_ | refine AV.str_congr ?_ | refine AV.list_congr ?_ | with_reducible rfl | refine fr1 ?_ | refine fr2 ?_ ?_
  · rename_i h1
    have hl : l = [] := List.eq_nil_of_length_eq_zero (by rw [hrl] at hb; exact hb (by revert h1; cases b <;> simp))
    subst hl; rfl
  · rename_i h1
    have hl : l = [] := List.eq_nil_of_length_eq_zero (by rw [hrl] at hb; exact hb (by revert h1; cases b <;> simp))
    subst hl; rfl
  · exact rows_cut Ty.int l
  · simp only [hrl, List.length_nil]; omega
  · rfl
  · simp only [hrl, List.length_nil]; omega
def intT (l : List Int) : Tr := .l 3 1 (l.map Ty.int.q)
theorem gvLL_ints : ∀ (l : List Int) (n : Nat), gvLL (l.map Ty.int.q) n = ci l
  | [], _ => rfl
  | a :: l, n => by
    have h := gvLL_ints l n
    show gvL [Tr.v (.int .i64 a)] n ++ gvLL (l.map Ty.int.q) (n + 0) = AV.val (.int .i64 a) :: ci l
    rw [Nat.add_zero, h]; rfl
theorem gbLL_ints : ∀ (l : List Int) (n : Nat), gbLL (l.map Ty.int.q) n = []
  | [], _ => rfl
  | a :: l, n => by
    show gbL [Tr.v (.int .i64 a)] n ++ gbLL (l.map Ty.int.q) (n + 0) = []
    rw [gbLL_ints]; rfl
theorem gv_intT (l : List Int) (n : Nat) : gv (intT l) n = .bsl n l.length := by rw [intT, gv, List.length_map]
theorem gb_intT (l : List Int) (n : Nat) : gb (intT l) n = [.cells (.row 3 1) (ci l)] := by rw [intT, gb, gvLL_ints, gbLL_ints]
theorem slCloneI.own (l : List Int) (h : l.length ≤ 1048576) : slCloneI.Own [.list none (rows Ty.int l)] (intT l) :=
  plain_own Ty.int (fun _ => rfl) (fun _ => rfl) 3 0 rfl (slCloneI.ret l h)
theorem noTk_ci (l : List Int) : ∀ c ∈ ci l, noTk c = true := fun c hc => by
  obtain ⟨n, _, rfl⟩ := List.mem_map.1 hc; rfl
theorem pFalling.ret (l : List Int) (h : l.length ≤ 1048576) : pFalling.Ret [.list none (rows Ty.int l)] (.list (some 0) (rows Ty.int (fallF l))) [(3, 1, (fallF l).length)] := by
  refine pFalling.of rfl ?_
  conv => whnf
  refine ACall.unb [.list none (rows Ty.int l)] (intT l) (slCloneI.own l h) (.cons (SeesB.of0 (Sees0.olds _ _)) .nil) ?_
  rw [gv_intT, gb_intT]
  conv => whnf
  refine ACall.ctx rfl _ _ _ (slSortI.ctx [.cells (.row 3 1) (ci l)] 0 l rfl h) (.lend _ _ (noTk_ci l) .nil) (.cons (.inl ⟨rfl, rfl⟩) (.cons (.inl ⟨rfl, rfl⟩) .nil)) ?_
  rintro r b1 ⟨rfl, rfl⟩
  conv => whnf
  refine FreezeD.flat (Freeze.mk (rows Ty.int (fallF l)) (ci (fallF l)) 3 1 rfl (ci_rows _).symm (by rw [length_rows, fallF_len]) (rows_cut Ty.int _) (ci_nr _) ?_)
  · repeat' first
      | contradiction | exact trivial
      | (conv => whnf
         first | refine Need.mk (fun h => h) ?_ | refine Need.mk rfl ?_ | refine Need.mk ⟨rfl, Nat.le_of_ble_eq_true rfl⟩ ?_ | refine Need.mk (Nat.le_of_ble_eq_true rfl) ?_ | refine Need.finN ?_ | refine Need.mk ?_ ?_ | refine Ix.strsN rfl ?_ | refine Ix.strs rfl ?_ ?_ | refine Cut.strs rfl ?_ ?_ | refine Ix.mapN (fun _ => rfl) ?_ | refine Ix.map (fun _ => rfl) ?_ ?_ | refine Cut.map (fun _ => rfl) ?_ ?_ | refine Fork.yes (by assumption) ?_ | refine Fork.no (by assumption) ?_ | refine Fork.decY ?_ | refine Fork.andY ?_ | refine Fork.andN ?_ | refine Fork.decN ?_ | refine Fork.dec (fun _ => ?_) (fun _ => ?_) | refine Fork.bne (fun _ => ?_) (fun _ => ?_) | refine Fork.beq (fun _ => ?_) (fun _ => ?_) | refine Fork.seq (fun _ => ?_) (fun _ => ?_) | refine Fork.sne (fun _ => ?_) (fun _ => ?_) | refine Fork.neg (fun _ => ?_) (fun _ => ?_) | refine Fork.mk (fun _ => ?_) (fun _ => ?_) | refine HAlt.mk ?_ ?_ | apply HJoin.mk3 | exact HEnd.mk rfl rfl rfl | refine HEnd.mk ?_ ?_ ?_ | refine Round.mk ?_ | refine NilQ.mk (fun b hb => ?_) | refine forceK_of ?_ | refine forceBx_of ?_ | refine unG_old ?_ | refine unG_gv ?_ | refine Lit.read rfl ?_ | refine LitO.own rfl ?_ | refine FinVal.keep ?_ | refine FinAgg.keep ?_ | refine Final.mk rfl rfl | refine Final.mk ?_ rfl | refine Final.mk ?_ ?_ | refine FinalT.mk ?_ ?_ | refine FinalI.mk ?_ | refine FinalC.allA ?_)
      | refine AV.bool_congr ?_ | refine AV.int_congr ?_ | refine AV.str_congr ?_ | refine AV.list_congr ?_ | with_reducible rfl | refine fr1 ?_ | refine fr2 ?_ ?_
    rw [fallF_len]
theorem pFalling.own (l : List Int) (h : l.length ≤ 1048576) : pFalling.Own [.list none (rows Ty.int l)] (.l 3 1 ((fallF l).map Ty.int.q)) :=
  plain_own Ty.int (fun _ => rfl) (fun _ => rfl) 3 0 rfl (pFalling.ret l h)
end Go.Proofs.Ytplfkocigmnpmaa
namespace Go.Proofs.Ytplfkocigmnpmaa
open Abs
def dNew.code : ACode := (.seq (.region false [s 2 (.mv (.const (.pointer none)))]) (.seq (.region false [s 5 (.mv (t 0)), s 6 (.len false (t 5)), s 7 (.bin .mul (.const (.int .i64 3)) (t 6)), s 8 (.bin .add (.const (.int .i64 851207)) (t 7)), s 3 (.mv (t 8))]) (.seq (.seq (.region false [s 4 (.mv (.const (.int .i64 0)))]) (.block 0 (.loop (.seq (.seq (.region false [s 9 (.mv (t 4)), s 10 (.mv (t 0)), s 11 (.len false (t 10)), s 12 (.bin .lss (t 9) (t 11)), s 13 (.mv (t 12)), g 13 true 14 (.mv (t 4)), g 13 true 15 (.bin .lss (t 14) (.const (.int .i64 4000))), s 16 (.and (t 13) (t 15))]) (.cond (t 16) .skip (.exit 0))) (.seq (.block 1 (.region false [s 19 (.mv (t 3)), s 20 (.bin .mul (t 19) (.const (.int .i64 167))), s 21 (.mv (t 0)), s 22 (.mv (t 4)), s 23 (.iadr 1 (t 21) (t 22)), s 24 (.load false 1 (t 23)), s 25 (.conv .i64 (t 24)), s 26 (.bin .add (t 20) (t 25)), s 27 (.bin .add (t 26) (.const (.int .i64 29))), s 28 (.bin .and (t 27) (.const (.int .i64 1073741823))), s 3 (.mv (t 28))])) (.region false [s 17 (.mv (t 4)), s 18 (.bin .add (t 17) (.const (.int .i64 1))), s 4 (.mv (t 18))])))))) (.seq (.region false [s 29 (.mv (t 0)), s 30 (.mv (t 3)), s 31 (.build [(.slice none 0 0), (.int .i64 (.ofNat 0)), (.int .i64 (.ofNat 0))] [(0, 1), (2, 1)] [(t 29), (t 30)]), s 32 (.box (t 31)), s 2 (.mv (t 32))]) .ret))))
def dNew.keep : List Nat := [0, 2, 3, 4]
def dNew.res : List RRes := [.tmp 2]
theorem dNew.ofI {mo : Bool} {b0 : List ABox} {f0 : Fr} {args : List AV} {Φ : AV → List ABox → Fr → Prop} (hn : Nat.ble args.length Try.f49.ntmps = true) (h : aCode (Kn mo Try.prog) dNew.keep b0.length dNew.code (doneI dNew.res Φ) ⟨argEnv 0 args, b0, f0⟩) : Abs.Ins mo Try.prog 49 b0 f0 args Φ :=
  Abs.Ins.of_ir Try.func49 rfl (by kernel_rfl) (Nat.le_of_ble_eq_true hn) (by kernel_rfl) (by kernel_rfl) h
def dByte.code : ACode := (.seq (.region false [s 2 (.mv (.const (.int .i64 0)))]) (.seq (.region false [s 4 (.mv (t 0)), s 5 (.mv (t 0)), s 6 (.fadr 0 (t 5)), s 7 (.fadr 2 (t 6)), s 8 (.load false 1 (t 7)), s 9 (.bin .mul (t 8) (.const (.int .i64 6364136223846793005))), s 10 (.bin .add (t 9) (.const (.int .i64 1442695040888963407))), s 11 (.fadr 0 (t 4)), s 12 (.fadr 2 (t 11)), ⟨none, none, (.store 1 (t 12) (t 10))⟩]) (.seq (.region true [s 13 (.mv (t 0)), s 14 (.fadr 0 (t 13)), s 15 (.fadr 2 (t 14)), s 16 (.load false 1 (t 15)), s 17 (.bin .shr (t 16) (.const (.int .u64 35))), s 18 (.mv (t 0)), s 19 (.fadr 0 (t 18)), s 20 (.fadr 2 (t 19)), s 21 (.load false 1 (t 20)), s 22 (.bin .shr (t 21) (.const (.int .u64 45))), s 23 (.bin .xor (t 17) (t 22)), s 24 (.bin .and (t 23) (.const (.int .i64 255))), s 3 (.mv (t 24))]) (.seq (.seq (.region true [s 25 (.mv (t 0)), s 26 (.fadr 0 (t 25)), s 27 (.fadr 1 (t 26)), s 28 (.load false 1 (t 27)), s 29 (.mv (t 0)), s 30 (.fadr 0 (t 29)), s 31 (.fadr 0 (t 30)), s 32 (.load false 1 (t 31)), s 33 (.len false (t 32)), s 34 (.bin .lss (t 28) (t 33))]) (.cond (t 34) (.seq (.region true [s 35 (.mv (t 3)), s 36 (.mv (t 0)), s 37 (.fadr 0 (t 36)), s 38 (.fadr 0 (t 37)), s 39 (.load false 1 (t 38)), s 40 (.mv (t 0)), s 41 (.fadr 0 (t 40)), s 42 (.fadr 1 (t 41)), s 43 (.load false 1 (t 42)), s 44 (.iadr 1 (t 39) (t 43)), s 45 (.load false 1 (t 44)), s 46 (.conv .i64 (t 45)), s 47 (.bin .add (t 35) (t 46)), s 48 (.bin .and (t 47) (.const (.int .i64 255))), s 3 (.mv (t 48))]) (.region false [s 49 (.mv (t 0)), s 50 (.mv (t 0)), s 51 (.fadr 0 (t 50)), s 52 (.fadr 1 (t 51)), s 53 (.load false 1 (t 52)), s 54 (.bin .add (t 53) (.const (.int .i64 1))), s 55 (.fadr 0 (t 49)), s 56 (.fadr 1 (t 55)), ⟨none, none, (.store 1 (t 56) (t 54))⟩])) .skip)) (.seq (.region false [s 57 (.mv (t 3)), s 2 (.mv (t 57))]) .ret)))))
def dByte.keep : List Nat := [0, 2, 3]
def dByte.res : List RRes := [.tmp 2]
theorem dByte.ofL {mo : Bool} {b0 : List ABox} {args : List AV} {Φ : AV → List ABox → Fr → Prop} (hd : noDead b0 = true) (hn : Nat.ble args.length Try.f90.ntmps = true) (h : aCode (Kn mo Try.prog) dByte.keep b0.length dByte.code (doneL dByte.res Φ) ⟨argEnv 0 args, b0, []⟩) : Abs.Lent mo Try.prog 90 b0 args Φ :=
  Abs.Lent.of_ir hd Try.func90 rfl (by kernel_rfl) (Nat.le_of_ble_eq_true hn) (by kernel_rfl) (by kernel_rfl) h
def dBelow.code : ACode := (.seq (.region false [s 4 (.mv (.const (.int .i64 0)))]) (.seq (.seq (.region false [s 8 (.mv (t 1)), s 9 (.bin .leq (t 8) (.const (.int .i64 0)))]) (.cond (t 9) (.seq (.region false [s 4 (.mv (.const (.int .i64 0)))]) .ret) .skip)) (.seq (.seq (.region false [s 10 (.mv (t 1)), s 11 (.bin .leq (t 10) (.const (.int .i64 256)))]) (.cond (t 11) (.seq (.region false [s 12 (.mv (t 0)), s 13 (.call 90 [(t 12)]), s 14 (.mv (t 1)), s 15 (.bin .rem (t 13) (t 14)), s 4 (.mv (t 15))]) .ret) .skip)) (.seq (.region false [s 16 (.mv (t 0)), s 17 (.call 90 [(t 16)]), s 5 (.mv (t 17))]) (.seq (.region false [s 18 (.mv (t 0)), s 19 (.call 90 [(t 18)]), s 6 (.mv (t 19))]) (.seq (.region false [s 20 (.mv (t 0)), s 21 (.call 90 [(t 20)]), s 7 (.mv (t 21))]) (.seq (.region false [s 22 (.mv (t 5)), s 23 (.bin .mul (t 22) (.const (.int .i64 65536))), s 24 (.mv (t 6)), s 25 (.bin .mul (t 24) (.const (.int .i64 256))), s 26 (.bin .add (t 23) (t 25)), s 27 (.mv (t 7)), s 28 (.bin .add (t 26) (t 27)), s 29 (.mv (t 1)), s 30 (.bin .rem (t 28) (t 29)), s 4 (.mv (t 30))]) .ret)))))))
def dBelow.keep : List Nat := [0, 1, 4, 5, 6, 7]
def dBelow.res : List RRes := [.tmp 4]
theorem dBelow.ofL {mo : Bool} {b0 : List ABox} {args : List AV} {Φ : AV → List ABox → Fr → Prop} (hd : noDead b0 = true) (hn : Nat.ble args.length Try.f50.ntmps = true) (h : aCode (Kn mo Try.prog) dBelow.keep b0.length dBelow.code (doneL dBelow.res Φ) ⟨argEnv 0 args, b0, []⟩) : Abs.Lent mo Try.prog 50 b0 args Φ :=
  Abs.Lent.of_ir hd Try.func50 rfl (by kernel_rfl) (Nat.le_of_ble_eq_true hn) (by kernel_rfl) (by kernel_rfl) h
def dOnce.code : ACode := (.seq (.region false [s 4 (.mv (.const (.bool false)))]) (.seq (.region false [s 5 (.mv (t 0)), s 6 (.mv (t 1)), s 7 (.call 50 [(t 5), (t 6)]), s 8 (.bin .eql (t 7) (.const (.int .i64 0))), s 4 (.mv (t 8))]) .ret))
def dOnce.keep : List Nat := [0, 1, 4]
def dOnce.res : List RRes := [.tmp 4]
theorem dOnce.ofL {mo : Bool} {b0 : List ABox} {args : List AV} {Φ : AV → List ABox → Fr → Prop} (hd : noDead b0 = true) (hn : Nat.ble args.length Try.f51.ntmps = true) (h : aCode (Kn mo Try.prog) dOnce.keep b0.length dOnce.code (doneL dOnce.res Φ) ⟨argEnv 0 args, b0, []⟩) : Abs.Lent mo Try.prog 51 b0 args Φ :=
  Abs.Lent.of_ir hd Try.func51 rfl (by kernel_rfl) (Nat.le_of_ble_eq_true hn) (by kernel_rfl) (by kernel_rfl) h
def dInt.code : ACode := (.seq (.region false [s 4 (.mv (.const (.int .i64 0)))]) (.seq (.region false [s 5 (.mv (t 1)), s 6 (.mv (t 0)), s 7 (.mv (t 1)), s 8 (.len false (t 7)), s 9 (.call 50 [(t 6), (t 8)]), s 10 (.iadr 1 (t 5) (t 9)), s 11 (.load false 1 (t 10)), s 4 (.mv (t 11))]) .ret))
def dInt.keep : List Nat := [0, 1, 4]
def dInt.res : List RRes := [.tmp 4]
theorem dInt.ofL {mo : Bool} {b0 : List ABox} {args : List AV} {Φ : AV → List ABox → Fr → Prop} (hd : noDead b0 = true) (hn : Nat.ble args.length Try.f91.ntmps = true) (h : aCode (Kn mo Try.prog) dInt.keep b0.length dInt.code (doneL dInt.res Φ) ⟨argEnv 0 args, b0, []⟩) : Abs.Lent mo Try.prog 91 b0 args Φ :=
  Abs.Lent.of_ir hd Try.func91 rfl (by kernel_rfl) (Nat.le_of_ble_eq_true hn) (by kernel_rfl) (by kernel_rfl) h
def dOdd.code : ACode := (.seq (.region false [s 2 (.mv (.const (.int .i64 0)))]) (.seq (.region false [s 3 (.mv (t 0)), s 4 (.bslice 3 1 true [(.const (.int .i64 (-1))), (.const (.int .i64 0)), (.const (.int .i64 1)), (.const (.int .i64 2)), (.const (.int .i64 9)), (.const (.int .i64 10)), (.const (.int .i64 24)), (.const (.int .i64 25)), (.const (.int .i64 200)), (.const (.int .i64 201)), (.const (.int .i64 9999)), (.const (.int .i64 10000)), (.const (.int .i64 9223372036854775807)), (.const (.int .i64 (-9223372036854775808)))]), s 5 (.call 91 [(t 3), (t 4)]), s 2 (.mv (t 5))]) .ret))
def dOdd.keep : List Nat := [0, 2]
def dOdd.res : List RRes := [.tmp 2]
theorem dOdd.ofL {mo : Bool} {b0 : List ABox} {args : List AV} {Φ : AV → List ABox → Fr → Prop} (hd : noDead b0 = true) (hn : Nat.ble args.length Try.f52.ntmps = true) (h : aCode (Kn mo Try.prog) dOdd.keep b0.length dOdd.code (doneL dOdd.res Φ) ⟨argEnv 0 args, b0, []⟩) : Abs.Lent mo Try.prog 52 b0 args Φ :=
  Abs.Lent.of_ir hd Try.func52 rfl (by kernel_rfl) (Nat.le_of_ble_eq_true hn) (by kernel_rfl) (by kernel_rfl) h
def lbig.code : ACode := (.seq (.region false [s 2 (.mv (.const (.bool false)))]) (.seq (.region false [s 3 (.mv (t 0)), s 4 (.len false (t 3)), s 5 (.bin .gtr (t 4) (.const (.int .i64 4096))), s 2 (.mv (t 5))]) .ret))
def lbig.keep : List Nat := [0, 2]
def lbig.res : List RRes := [.tmp 2]
theorem lbig.of {mo : Bool} {args : List AV} {r : AV} {frs : Fr} (hn : Nat.ble args.length Try.f11.ntmps = true) (h : aCode (Kn mo Try.prog) lbig.keep 0 lbig.code (doneK lbig.res r frs) ⟨argEnv 0 args, [], []⟩) : Abs.Ret mo Try.prog 11 args r frs :=
  Abs.Ret.of_ir Try.func11 rfl (by kernel_rfl) (Nat.le_of_ble_eq_true hn) (by kernel_rfl) (by kernel_rfl) h
abbrev lbig.Ret (args : List AV) (r : AV) (frs : Fr) : Prop := Abs.Ret true Try.prog 11 args r frs
end Go.Proofs.Ytplfkocigmnpmaa
namespace Go.Proofs.Ytplfkocigmnpmaa
namespace Abs
variable {mo : Bool} {P : Program}
theorem Sees0.tup {xs ys : List AV} (h : SeesL Sees0 xs ys) : Sees0 (.tup xs) (.tup ys) := fun hx B' box' => by
  have hx := hx.tup_inv
  cases hx with
  | tup _ vs hl hr =>
    refine .tup _ _ (by rw [← h.length]; exact hl) (fun i c hc => ?_)
    obtain ⟨x, hx, hs⟩ := h.get' hc
    exact hs (.rep _ _ (hr i x hx)) B' box'
def deads (n : Nat) : List ABox := List.replicate n .dead
theorem deads_len (n : Nat) : (deads n).length = n := List.length_replicate
theorem deads_get {n j : Nat} {x : ABox} (h : (deads n)[j]? = some x) : x = .dead := List.eq_of_mem_replicate (List.mem_of_getElem? h)
theorem CondB.take {w : World} {box : List BId} (h : CondB w box) (m : Nat) : CondB w (box.take m) := h.sub fun j b c hj => ⟨j, by
  rw [List.getElem?_take] at hj
  split at hj
  · exact hj
  · cases hj⟩
theorem take_get {α : Type} {l : List α} {m j : Nat} {x : α} (h : (l.take m)[j]? = some x) : l[j]? = some x ∧ j < m := by
  rw [List.getElem?_take] at h
  split at h
  · exact ⟨h, by assumption⟩
  · cases h
theorem mask_pre : ∀ (b c : List ABox) (box : List BId) (j : Nat) (x : BId), (mask b (box.take b.length))[j]? = some x → (mask (b ++ c) box)[j]? = some x
  | [], _, _, j, x, h => by simp [mask] at h
  | y :: b, c, [], j, x, h => by cases y <;> simp [mask] at h
  | y :: b, c, d :: box, j, x, h => by
    have ih := mask_pre b c box
    cases y <;> (cases j with
      | zero => simpa [mask] using h
      | succ j => simp only [List.length_cons, List.take_succ_cons, mask, List.getElem?_cons_succ] at h; simp only [List.cons_append, mask, List.getElem?_cons_succ]; exact ih j x h)
theorem BoxOk.take {B : Nat} {w : World} {F : Nat → Nat} {tok : List (Option Nat)} {fr : Fr} {box : List BId} {m : Nat} {d : BId} {x : ABox} (h : BoxOk B w F tok fr box d x) (hx : ∀ k cs, x = .cells k cs → inB.inBL m cs) : BoxOk B w F tok fr (box.take m) d x := by
  cases d with
  | blk b c =>
    cases x with
    | cells k cs =>
      obtain ⟨c', t, h1, h2, h3, h4⟩ := h
      exact ⟨c', t, h1, h2, fun i y hy => ⟨(h3 i y hy).1.take (inBL_mem (hx k cs rfl) (List.mem_of_getElem? hy)), (h3 i y hy).2⟩, h4⟩
    | iter s p => exact h
    | map m => exact h
    | vmap kk vk m => exact h
    | dead => exact trivial
  | nil =>
    cases x with
    | cells k cs => exact h
    | iter s p => exact h
    | map m => exact h
    | vmap kk vk m => exact h
    | dead => exact trivial
theorem BoxOk.wide {B : Nat} {w : World} {F : Nat → Nat} {tok : List (Option Nat)} {fr : Fr} {box box' : List BId} (hb : ∀ (j : Nat) d, box[j]? = some d → box'[j]? = some d) {d : BId} {x : ABox} (h : BoxOk B w F tok fr box d x) : BoxOk B w F tok fr box' d x :=
  h.later (Later.refl w F tok fr) hb (fun _ _ _ _ => rfl)
theorem Lent.mono {f : Nat} {b0 : List ABox} {args : List AV} {Φ Ψ : AV → List ABox → Fr → Prop} (h : Lent mo P f b0 args Φ) (hΦ : ∀ r b fr, Φ r b fr → Ψ r b fr) : Lent mo P f b0 args Ψ := by
  rw [Lent_eq] at *
  refine ⟨h.1, fun w F vs box0 q a b c d e g => (h.2 w F vs box0 q a b c d e g).mono ?_⟩
  rintro en w' ⟨v, F', box1, tok, frs, r, b1, h1, h2⟩
  exact ⟨v, F', box1, tok, frs, r, b1, hΦ _ _ _ h1, h2⟩
/-- what is handed back is only read; boxes that were laid are forgotten -/
theorem Lent.trim {f : Nat} {b0 : List ABox} {args : List AV} {Φ Ψ : AV → List ABox → Fr → Prop} (h : Lent mo P f b0 args Φ)
    (hΦ : ∀ r b fr, Φ r b fr → ∃ r', Ψ r' (b.take b0.length) [] ∧ Sees0 r r' ∧ ∀ x ∈ b.take b0.length, ∀ k cs, x = .cells k cs → inB.inBL b0.length cs) : Lent mo P f b0 args Ψ := by
  rw [Lent_eq] at *
  refine ⟨h.1, fun w F vs box0 q a b c d e g => (h.2 w F vs box0 q a b c d e g).mono ?_⟩
  rintro en w' ⟨v, F', box1, tok, frs, r, b1, h1, h2, h3, h4, h5, h6, h7, h8, h9, h10, h11, h12, h13, h14, h15, h16⟩
  obtain ⟨r', k1, k2, k3⟩ := hΦ _ _ _ h1
  have hle : box0.length ≤ box1.length := by
    rcases Nat.lt_or_ge box1.length box0.length with h | h
    · have := getElem?_lt (h6 box1.length _ (List.getElem?_eq_getElem h)); omega
    · exact h
  have lv : ∀ j, j < b0.length → live (b1.take b0.length) j → live b1 j := fun j hj hl hd => hl (by rw [List.getElem?_take, if_pos hj]; exact hd)
  refine ⟨v, F', box1.take b0.length, [], [], _, b1.take b0.length, k1, h2, h3, h4, h5, fun j d hj => ?_, by rw [List.length_take, List.length_take, h7], fun j b c hj hb => ?_, fun j b c hj hl => ?_, fun i j b c c' hi hj li lj => ?_, fun j d x hj hx => ?_, rfl, by simp, by simp, by simp, ?_⟩
  · rw [List.getElem?_take, if_pos (by have := getElem?_lt hj; omega)]; exact h6 j d hj
  · have := (take_get hb).2; omega
  · obtain ⟨e1, e2⟩ := take_get hj
    exact h9 j b c e1 (lv j e2 hl)
  · obtain ⟨e1, e2⟩ := take_get hi
    obtain ⟨e3, e4⟩ := take_get hj
    exact h10 i j b c c' e1 e3 (lv i e2 li) (lv j e4 lj)
  · obtain ⟨e1, e2⟩ := take_get hj
    obtain ⟨e3, e4⟩ := take_get hx
    intro hor
    exact (h11 j d x e1 e3 hor).take (fun k cs he => k3 x (List.mem_of_getElem? hx) k cs he)
  · exact k2 (.rep _ _ h16) _ _
/-- .. and may have any other boxes beside it -/
theorem Lent.wide {f : Nat} {b0 : List ABox} {args : List AV} {Φ : AV → List ABox → Fr → Prop} (h : Lent mo P f b0 args Φ) (n : Nat) (ha : ∀ x ∈ args, inB b0.length x) (hb0 : ∀ x ∈ b0, ∀ k cs, x = .cells k cs → inB.inBL b0.length cs)
    (hΦ : ∀ r b fr, Φ r b fr → b.length = b0.length) : Lent mo P f (b0 ++ deads n) args (fun r b1 f1 => ∃ b, Φ r b f1 ∧ b1 = b ++ deads n) := by
  rw [Lent_eq] at *
  refine ⟨h.1, fun w F vs box0 hc hout hbl hbi hbj hB hargs => ?_⟩
  have hl0 : box0.length = b0.length + n := by rw [hbl, List.length_append, deads, List.length_replicate]
  have lv : ∀ j, j < b0.length → live b0 j → live (b0 ++ deads n) j := fun j hj hl hd => hl (by rw [List.getElem?_append_left hj] at hd; exact hd)
  have hlt : (box0.take b0.length).length = b0.length := by rw [List.length_take]; omega
  refine (h.2 w F vs (box0.take b0.length) (hc.take _) hout hlt (fun j b c hj => ?_) (fun i j b c c' hi hj li lj => ?_) (fun j d x hj hx => ?_) ⟨hargs.1, fun i x v hx hv => (hargs.2 i x v hx hv).take (ha x (List.mem_of_getElem? hx))⟩).mono ?_
  · obtain ⟨e1, e2⟩ := take_get hj
    exact ⟨(hbi j b c e1).1, fun hl => (hbi j b c e1).2 (lv j e2 hl)⟩
  · obtain ⟨e1, e2⟩ := take_get hi
    obtain ⟨e3, e4⟩ := take_get hj
    exact hbj i j b c c' e1 e3 (lv i e2 li) (lv j e4 lj)
  · obtain ⟨e1, e2⟩ := take_get hj
    exact (hB j d x e1 (by rw [List.getElem?_append_left e2]; exact hx)).take (fun k cs he => hb0 x (List.mem_of_getElem? hx) k cs he)
  rintro en w' ⟨v, F', box1, tok, frs, r, b1, h1, h2, h3, h4, h5, h6, h7, h8, h9, h10, h11, h12, h13, h14, h15, h16⟩
  have hb1 := hΦ _ _ _ h1
  have hbx : box1 = box0.take b0.length := by
    refine List.ext_getElem? fun j => ?_
    rcases Nat.lt_or_ge j b0.length with hj | hj
    · have : (box0.take b0.length)[j]? = some ((box0.take b0.length)[j]'(by omega)) := List.getElem?_eq_getElem (by omega)
      rw [this]; exact h6 j _ this
    · rw [List.getElem?_eq_none (by omega), List.getElem?_eq_none (by omega)]
  subst hbx
  have dd : ∀ (bb : List ABox), bb.length = b0.length → ∀ j, j < box0.length → live (bb ++ deads n) j → j < b0.length ∧ live bb j := fun bb hbb j hj hl => by
    rcases Nat.lt_or_ge j b0.length with h | h
    · exact ⟨h, fun hd => hl (by rw [List.getElem?_append_left (by omega)]; exact hd)⟩
    · exact absurd (by rw [List.getElem?_append_right (by omega), deads, List.getElem?_replicate, if_pos (by omega)]) hl
  have up : ∀ (j : Nat) d, (box0.take b0.length)[j]? = some d → box0[j]? = some d := fun j d hj => (take_get hj).1
  have dn : ∀ (j : Nat) d, box0[j]? = some d → j < b0.length → (box0.take b0.length)[j]? = some d := fun j d hj hlt => by rw [List.getElem?_take, if_pos hlt]; exact hj
  refine ⟨v, F', box0, tok, frs, r, b1 ++ deads n, ⟨b1, h1, rfl⟩, h2, ⟨h3.drawn, h3.os, h3.tape, h3.output, h3.size, fun k hk hn => h3.block k hk fun j c hj => hn j c (mask_pre b0 (deads n) box0 j _ hj)⟩, h4, h5, fun _ _ h => h,
    by rw [List.length_append, deads, List.length_replicate, hb1, hl0], fun j b c hj hb => ?_, fun j b c hj hl hor => ?_, fun i j b c c' hi hj li lj oi oj => ?_, fun j d x hj hx hor => ?_, h12, h13, h14, fun k b j c hk hj => ?_, h16.later (Later.refl _ _ _ _) up⟩
  · have := getElem?_lt hb; omega
  · obtain ⟨e1, e2⟩ := dd b1 hb1 j (getElem?_lt hj) hl
    exact h9 j b c (dn j _ hj e1) e2 (hor.elim (fun h => .inl (by omega)) fun h => .inr (dd b0 rfl j (getElem?_lt hj) h).2)
  · obtain ⟨e1, e2⟩ := dd b1 hb1 i (getElem?_lt hi) li
    obtain ⟨e3, e4⟩ := dd b1 hb1 j (getElem?_lt hj) lj
    exact h10 i j b c c' (dn i _ hi e1) (dn j _ hj e3) e2 e4 (oi.elim (fun h => .inl (by omega)) fun h => .inr (dd b0 rfl i (getElem?_lt hi) h).2) (oj.elim (fun h => .inl (by omega)) fun h => .inr (dd b0 rfl j (getElem?_lt hj) h).2)
  · have hjl := getElem?_lt hj
    rcases Nat.lt_or_ge j b0.length with hlt' | hge
    · rw [List.getElem?_append_left (by omega)] at hx
      refine (h11 j d x (dn j _ hj hlt') hx ?_).wide up
      rcases hor with h | h
      · omega
      · exact .inr (dd b0 rfl j hjl h).2
    · rw [List.getElem?_append_right (by omega)] at hx
      rw [deads_get hx]
      cases d <;> exact trivial
  · intro hl
    obtain ⟨e1, e2⟩ := dd b1 hb1 j (getElem?_lt hj) hl
    exact h15 k b j c hk (dn j _ hj e1) e2
mutual
theorem mapK_old : ∀ (f : Nat → Option Nat) (x : Tr), mapK f (old x) = old x
  | _, .v _ => rfl
  | _, .s _ => rfl
  | f, .l _ _ xs => by rw [old, mapK, mapTLL_old f xs]; rfl
  | f, .a fs => by rw [old, mapK, mapKL_old f fs]
  | f, .p fs => by rw [old, mapK, mapKL_old f fs]
theorem mapKL_old : ∀ (f : Nat → Option Nat) (xs : List Tr), mapK.mapKL f (oldL xs) = oldL xs
  | _, [] => rfl
  | f, x :: xs => by rw [oldL, mapK.mapKL, mapK_old f x, mapKL_old f xs]
end
theorem shiftK_old (n : Nat) (x : Tr) : shiftK n (old x) = old x := by
  cases n with
  | zero => rfl
  | succ n => exact mapK_old _ x
theorem Lends.deads : ∀ b : List ABox, Lends b (deads b.length)
  | [] => .nil
  | x :: b => .hide x (Lends.deads b)
theorem merge_deads : ∀ b : List ABox, merge b (deads b.length) (deads b.length) = b
  | [] => rfl
  | x :: b => by
    show x :: merge b (Abs.deads b.length) (Abs.deads b.length) = _
    rw [merge_deads b]
/-- a call without boxes, likewise -/
theorem Ret.lent {f : Nat} {args : List AV} {r : AV} {frs : Fr} (h : Ret mo P f args r frs) : Lent mo P f [] args (fun x b z => x = mapT noTok r ∧ b = [] ∧ z = []) := by
  rw [Lent_eq]; rw [Ret_eq] at h
  refine ⟨h.1, fun w F vs box0 hc hout hbl hbi hbj hB hargs => ?_⟩
  have e0 : box0 = [] := List.eq_nil_of_length_eq_zero hbl
  subst e0
  refine (h.2 w F vs hc hout hargs).mono ?_
  rintro en w' ⟨v, F', tok, box, h3, h4, h5, h6, h7, h8, h9, h10⟩
  exact ⟨v, F', [], [], [], _, [], ⟨rfl, rfl, rfl⟩, h3, ⟨h4.drawn, h4.os, h4.tape, h4.output, h4.size, fun k hk _ => h4.block k hk⟩, h5, h6, fun _ _ h => h, rfl, by simp, by simp, by simp, by simp, rfl, by simp, by simp, by simp, h10.mapT _ (fun _ _ h => by cases h) (fun _ _ h => by cases h) []⟩
theorem SeesL.toC {vs ys : List AV} (h : SeesL Sees0 vs ys) : SeesL SeesC vs ys := by
  induction h with
  | nil => exact .nil
  | cons h _ ih => exact .cons (.inr h) ih
def tByte : Ty Int where
  sz := 1
  q n := [.v (.int .u8 n)]
  tk n _ := [.val (.int .u8 n)]
  fr _ := []
  size _ := 0
  bd n := 0 ≤ n ∧ n < 256
  cl := [.int .u8]
  hcl xs h := by
    cases h with
    | int k n h hs =>
      cases hs
      simp only [Lit.wf, Bool.and_eq_true, decide_eq_true_eq] at h
      have h1 : IntKind.u8.min = 0 := rfl
      have h2 : IntKind.u8.max = 255 := rfl
      exact ⟨n, rfl, by omega, by omega⟩
  hq _ := rfl
  hok _ := rfl
  htk _ _ := rfl
  hnr _ _ c hc := by simp at hc; subst hc; rfl
  hsh _ _ _ := rfl
  hse _ _ := rfl
  hown a _ _ _ := ⟨_, .v _ rfl .nil, .refl _⟩
def curB (l : List Int) (i h : Int) : ABox := .cells .var [.list none (rows tByte l), .val (.int .i64 i), .val (.int .i64 h)]
structure CurOk (l : List Int) (i : Int) : Prop where
  lo : 0 ≤ i
  hi : i ≤ l.length
  len : l.length ≤ 4096
  byte : ∀ x ∈ l, 0 ≤ x ∧ x < 256
theorem curB_in (l : List Int) (i h : Int) (m : Nat) : ∀ k cs, curB l i h = .cells k cs → inB.inBL m cs := by rintro _ _ ⟨⟩; exact ⟨trivial, trivial, trivial, trivial⟩
theorem noTkLL_of : ∀ {xs : List (List AV)}, (∀ x ∈ xs, ∀ c ∈ x, noTk c = true) → noTkLL xs = true
  | [], _ => rfl
  | x :: xs, h => by
    have h1 : ∀ {cs : List AV}, (∀ c ∈ cs, noTk c = true) → noTkL cs = true := by
      intro cs
      induction cs with
      | nil => intro _; rfl
      | cons c cs ih => intro h; rw [noTkL, h c (by simp), ih fun d hd => h d (by simp [hd])]; rfl
    rw [noTkLL, h1 (h x (by simp)), noTkLL_of fun y hy => h y (by simp [hy])]; rfl
theorem rows_noTk (l : List Int) : noTkLL (oldLL (l.map tByte.q)) = true := noTkLL_of fun x hx c hc => by
  rw [oldLL_eq] at hx
  obtain ⟨e, he, rfl⟩ := List.mem_map.1 hx
  obtain ⟨n, _, rfl⟩ := List.mem_map.1 he
  simp [tByte, old] at hc
  subst hc; rfl
/-- Lent a cursor, the function hands back some X a of which Q is known, which is only read, and moves the cursor on. -/
def Drw {α : Type} (mo : Bool) (P : Program) (f : Nat) (args : List AV) (Q : α → Prop) (X : α → Tr) : Prop :=
  ∀ l i h, CurOk l i → Lent mo P f [curB l i h] (.bptr 0 0 :: args) (fun r b1 f1 => ∃ a i' h', CurOk l i' ∧ b1 = [curB l i' h'] ∧ f1 = [] ∧ Q a ∧ r = old (X a))
/-- .. what its code has to show -/
def DrwEnd {α : Type} (l : List Int) (Q : α → Prop) (X : α → Tr) (r : AV) (b1 : List ABox) (_ : Fr) : Prop := ∃ a i' h' bs, CurOk l i' ∧ b1 = curB l i' h' :: bs ∧ Q a ∧ Sees0 r (old (X a))
theorem DrwEnd.at {α : Type} {l : List Int} {Q : α → Prop} {X : α → Tr} {r : AV} {i h : Int} {bs : List ABox} {fr : Fr} (a : α) (hc : CurOk l i) (hq : Q a) (he : Sees0 r (old (X a)) := by repeat' first | exact SeesL.nil | refine SeesL.cons ?_ ?_ | exact Sees0.val _ | exact Sees0.str _ | exact Sees0.olds _ _ | exact Sees0.old _ | exact Sees0.oldagg _ | exact Sees0.nil | refine Sees0.agg ?_ | refine Sees0.tup ?_ | exact Sees0.list rfl) : DrwEnd l Q X r (curB l i h :: bs) fr := ⟨a, i, h, bs, hc, rfl, hq, he⟩
theorem Drw.of {α : Type} {f : Nat} {args : List AV} {Q : α → Prop} {X : α → Tr} (h : ∀ l i h, CurOk l i → Lent mo P f [curB l i h] (.bptr 0 0 :: args) (DrwEnd l Q X)) : Drw mo P f args Q X := fun l i h0 hi =>
  (h l i h0 hi).trim (by
    rintro r b fr ⟨a, i', h', bs, h1, rfl, h2, h3⟩
    refine ⟨_, ⟨a, i', h', h1, rfl, rfl, h2, rfl⟩, h3, fun x hx k cs he => ?_⟩
    rw [List.mem_singleton.1 hx] at he
    exact curB_in l i' h' _ k cs he)
theorem FinalC.cur {Φ : AV → List ABox → Fr → Prop} {r : AV} {l : List Int} {i h : Int} {bs : List ABox} {f : Fr} (hk : Φ r (curB l i h :: Abs.deads bs.length) f) : FinalC Φ r (curB l i h :: bs) f :=
  ⟨_, .lend _ _ (fun c hc => by
    simp only [List.mem_cons, List.not_mem_nil, or_false] at hc
    rcases hc with rfl | rfl | rfl
    · show noTkLL (oldLL _) = true
      rw [rows_noTk]
    · rfl
    · rfl) (Lends.deads bs), hk⟩
theorem BoxOk.anyBox {B : Nat} {w : World} {F : Nat → Nat} {tok : List (Option Nat)} {fr : Fr} {box : List BId} (box' : List BId) {d : BId} {x : ABox} (h : BoxOk B w F tok fr box d x) (hx : ∀ k cs, x = .cells k cs → ∀ y ∈ cs, noRef y = true) : BoxOk B w F tok fr box' d x := by
  cases d with
  | blk b c =>
    cases x with
    | cells k cs =>
      obtain ⟨c', t, h1, h2, h3, h4⟩ := h
      exact ⟨c', t, h1, h2, fun i y hy => ⟨(h3 i y hy).1.anyBox _ (hx k cs rfl y (List.mem_of_getElem? hy)), (h3 i y hy).2⟩, h4⟩
    | iter s p => exact h
    | map m => exact h
    | vmap kk vk m => exact h
    | dead => exact trivial
  | nil =>
    cases x with
    | cells k cs => exact h
    | iter s p => exact h
    | map m => exact h
    | vmap kk vk m => exact h
    | dead => exact trivial
theorem mask_at {c : ABox} (hc : c ≠ .dead) (rest : List ABox) : ∀ (m : Nat) (box : List BId) (d : BId), box[m]? = some d → (mask (deads m ++ c :: rest) box)[m]? = some d
  | 0, [], _, h => by simp at h
  | 0, x :: box, d, h => by
    simp at h; subst h
    cases c <;> first | rfl | exact absurd rfl hc
  | m + 1, [], _, h => by simp at h
  | m + 1, x :: box, d, h => by
    show (mask (.dead :: (deads m ++ c :: rest)) (x :: box))[m + 1]? = some d
    simp only [mask, List.getElem?_cons_succ]
    exact mask_at hc rest m box d (by simpa using h)
theorem at_live {m n j : Nat} {c : ABox} (hj : j < m + 1 + n) (h : live (deads m ++ c :: deads n) j) : j = m ∧ live [c] 0 := by
  rcases Nat.lt_trichotomy j m with h1 | h1 | h1
  · exact absurd (by rw [List.getElem?_append_left (by rw [deads_len]; exact h1), deads, List.getElem?_replicate, if_pos h1]) h
  · subst h1
    refine ⟨rfl, fun hd => h ?_⟩
    rw [List.getElem?_append_right (by rw [deads_len]; exact Nat.le_refl _), deads_len, Nat.sub_self]
    simpa using hd
  · refine absurd ?_ h
    rw [List.getElem?_append_right (by rw [deads_len]; omega)]
    obtain ⟨q, rfl⟩ : ∃ q, j = m + 1 + q := ⟨j - m - 1, by omega⟩
    rw [deads_len, show m + 1 + q - m = q + 1 by omega, List.getElem?_cons_succ, deads, List.getElem?_replicate, if_pos (by omega)]
theorem at_get (m n : Nat) (c : ABox) : (deads m ++ c :: deads n)[m]? = some c := by
  rw [List.getElem?_append_right (by rw [deads_len]; exact Nat.le_refl _), deads_len, Nat.sub_self]; rfl
/-- .. wherever the box lies -/
theorem Lent.at {f : Nat} {c : ABox} {args : List AV} {Φ : AV → List ABox → Fr → Prop} (h : Lent mo P f [c] (.bptr 0 0 :: args) Φ) (m n : Nat) (hd : c ≠ .dead) (ha : ∀ x ∈ args, noRef x = true) (hc : ∀ k cs, c = .cells k cs → ∀ y ∈ cs, noRef y = true)
    (hΦ : ∀ r b fr, Φ r b fr → noRef r = true ∧ ∃ c', b = [c'] ∧ ∀ k cs, c' = .cells k cs → ∀ y ∈ cs, noRef y = true) : Lent mo P f (deads m ++ c :: deads n) (.bptr m 0 :: args) (fun r b1 f1 => ∃ c', Φ r [c'] f1 ∧ b1 = deads m ++ c' :: deads n) := by
  rw [Lent_eq] at *
  refine ⟨h.1, fun w F vs box0 hcond hout hbl hbi hbj hB hargs => ?_⟩
  have hl0 : box0.length = m + 1 + n := by rw [hbl, List.length_append, List.length_cons, deads, deads, List.length_replicate, List.length_replicate]; omega
  obtain ⟨d, hdm⟩ : ∃ d, box0[m]? = some d := ⟨_, List.getElem?_eq_getElem (by omega)⟩
  have hlm : live (deads m ++ c :: deads n) m := fun h => hd (Option.some.inj ((at_get m n c).symm.trans h))
  obtain ⟨vs⟩ := vs
  obtain ⟨v0, vr, rfl⟩ : ∃ v0 vr, vs = v0 :: vr := by
    cases vs with
    | nil => have := hargs.1; simp at this
    | cons a l => exact ⟨a, l, rfl⟩
  obtain ⟨r0, rr⟩ := Both.cons.1 hargs
  obtain ⟨bb, cap, hbb, rfl⟩ := r0.bptr_inv
  rw [hdm] at hbb
  cases hbb
  refine (h.2 w F _ [.blk bb cap] (hcond.sub fun j b c hj => ⟨m, by cases j with
    | zero => simp at hj; rw [hdm, hj.1, hj.2]
    | succ j => simp at hj⟩) hout rfl (fun j b c hj => ?_) (fun i j b c c' hi hj _ _ => ?_) (fun j d x hj hx => ?_) (Both.cons.2 ⟨.bptr 0 0 bb cap rfl, rr.1, fun i x v hx hv => (rr.2 i x v hx hv).anyBox _ (ha x (List.mem_of_getElem? hx))⟩)).mono ?_
  · cases j with
    | zero => simp at hj; obtain ⟨rfl, rfl⟩ := hj; exact ⟨(hbi m bb cap hdm).1, fun _ => (hbi m bb cap hdm).2 hlm⟩
    | succ j => simp at hj
  · cases i <;> cases j <;> simp at hi hj ⊢
  · cases j with
    | zero => simp at hj hx; subst hj; subst hx; exact (hB m _ _ hdm (at_get m n c)).anyBox _ hc
    | succ j => simp at hj
  rintro en w' ⟨v, F', box1, tok, frs, r, b1, h1, h2, h3, h4, h5, h6, h7, h8, h9, h10, h11, h12, h13, h14, h15, h16⟩
  obtain ⟨hr, c', rfl, hc'⟩ := hΦ _ _ _ h1
  have hbx : box1 = [.blk bb cap] := by
    have := h6 0 _ rfl
    cases box1 with
    | nil => simp at this
    | cons y l =>
      simp at this h7
      subst this; rw [h7]
  subst hbx
  have at0 : ∀ j, j < box0.length → live (deads m ++ c' :: deads n) j → j = m ∧ live [c'] 0 := fun j hj hl => at_live (by omega) hl
  refine ⟨v, F', box0, tok, frs, r, deads m ++ c' :: deads n, ⟨c', h1, rfl⟩, h2, ⟨h3.drawn, h3.os, h3.tape, h3.output, h3.size, fun k hk hn => h3.block k hk fun j cc hj => ?_⟩, h4, h5, fun _ _ h => h,
    by rw [List.length_append, List.length_cons, deads, deads, List.length_replicate, List.length_replicate, hl0]; omega, fun j b c hj hb => ?_, fun j b cc hj hl hor => ?_, fun i j b cc cc' hi hj li lj oi oj => ?_, fun j dd x hj hx hor => ?_, h12, h13, h14, fun k b j cc hk hj => ?_, h16.anyBox _ hr⟩
  · obtain ⟨e1, e2, e3⟩ := mask_get _ _ _ _ _ hj
    cases j with
    | zero => simp at e1; exact hn m cap (by rw [← e1.1]; exact mask_at hd _ m box0 _ hdm)
    | succ j => simp at e1
  · have := getElem?_lt hb; omega
  · obtain ⟨rfl, e2⟩ := at0 j (getElem?_lt hj) hl
    rw [hdm] at hj; cases hj
    exact h9 0 bb cap rfl e2 (.inr fun h => hd (by simpa using h))
  · exact (at0 i (getElem?_lt hi) li).1.trans (at0 j (getElem?_lt hj) lj).1.symm
  · rcases Nat.lt_trichotomy j m with e | e | e
    · rw [List.getElem?_append_left (by rw [deads_len]; exact e)] at hx
      rw [deads_get hx]; cases dd <;> exact trivial
    · subst e
      rw [at_get] at hx; cases hx
      rw [hdm] at hj; cases hj
      exact (h11 0 _ _ rfl rfl (.inr fun h => hd (by simpa using h))).anyBox _ hc'
    · rw [List.getElem?_append_right (by rw [deads_len]; omega)] at hx
      obtain ⟨q, rfl⟩ : ∃ q, j = m + 1 + q := ⟨j - m - 1, by omega⟩
      rw [deads_len, show m + 1 + q - m = q + 1 by omega, List.getElem?_cons_succ] at hx
      rw [deads_get hx]; cases dd <;> exact trivial
  · intro hl
    obtain ⟨rfl, e2⟩ := at0 j (getElem?_lt hj) hl
    rw [hdm] at hj; cases hj
    exact h15 k bb 0 cap hk rfl e2
mutual
theorem noRef_old : ∀ x : Tr, noRef (old x) = true
  | .v _ => rfl
  | .s _ => rfl
  | .l _ _ _ => rfl
  | .a fs => noRef_oldL fs
  | .p fs => noRef_oldL fs
theorem noRef_oldL : ∀ xs : List Tr, noRef.noRefL (oldL xs) = true
  | [] => rfl
  | x :: xs => by rw [oldL, noRef.noRefL, noRef_old x, noRef_oldL xs]; rfl
end
theorem curB_ref (l : List Int) (i h : Int) : ∀ k cs, curB l i h = .cells k cs → ∀ y ∈ cs, noRef y = true := by
  rintro _ _ ⟨⟩ y hy
  simp only [List.mem_cons, List.not_mem_nil, or_false] at hy
  rcases hy with rfl | rfl | rfl <;> rfl
theorem curB_tk (l : List Int) (i h : Int) : ∀ y ∈ [AV.list none (rows tByte l), .val (.int .i64 i), .val (.int .i64 h)], noTk y = true := fun y hy => by
  simp only [List.mem_cons, List.not_mem_nil, or_false] at hy
  rcases hy with rfl | rfl | rfl
  · show noTkLL (oldLL _) = true
    rw [rows_noTk]
  · rfl
  · rfl
theorem lends_at (c : List AV) (k : RK) (hc : ∀ y ∈ c, noTk y = true) (post : List ABox) : ∀ pre : List ABox, Lends (pre ++ .cells k c :: post) (deads pre.length ++ .cells k c :: deads post.length)
  | [] => .lend k c hc (Lends.deads post)
  | x :: pre => .hide x (lends_at c k hc post pre)
theorem merge_at (c c' : List AV) (k : RK) (post : List ABox) : ∀ pre : List ABox, merge (pre ++ .cells k c :: post) (deads pre.length ++ .cells k c :: deads post.length) (deads pre.length ++ .cells k c' :: deads post.length) = pre ++ .cells k c' :: post
  | [] => by
    show ABox.cells k c' :: merge post (deads post.length) (deads post.length) = _
    rw [merge_deads]; rfl
  | x :: pre => by
    show x :: merge (pre ++ .cells k c :: post) (deads pre.length ++ .cells k c :: deads post.length) (deads pre.length ++ .cells k c' :: deads post.length) = _
    rw [merge_at c c' k post pre]; rfl
theorem ACall.drw {α : Type} {f : Nat} {vs args : List AV} {j : Nat} {l : List Int} {i h : Int} {b : List ABox} {fr : Fr} {k : AV → List ABox → Fr → Prop} {Q : α → Prop} {X : α → Tr} (hD : Drw mo P f args Q X) (hb : b[j]? = some (curB l i h)) (hi : CurOk l i)
    (hv : SeesL SeesC vs (.bptr j 0 :: args)) (ha : noRef.noRefL args = true) (hk : ∀ a i' h', CurOk l i' → Q a → k (Abs.old (X a)) (b.set j (curB l i' h')) fr) : ACall (Kn mo P) true f vs b fr k := by
  have hj := getElem?_lt hb
  have eb : b = b.take j ++ curB l i h :: b.drop (j + 1) := by
    have h1 : b[j] = curB l i h := by rw [List.getElem?_eq_getElem hj] at hb; exact Option.some.inj hb
    rw [← h1, ← List.drop_eq_getElem_cons hj, List.take_append_drop]
  have el : (b.take j).length = j := by rw [List.length_take]; omega
  have es : ∀ c, b.set j c = b.take j ++ c :: b.drop (j + 1) := fun c => by rw [List.set_eq_take_append_cons_drop, if_pos hj]
  rw [noRefL_all, List.all_eq_true] at ha
  have hL := (hD l i h hi).at j (b.drop (j + 1)).length (by intro h; cases h) ha (curB_ref l i h) (by
    rintro r b fr ⟨a, i', h', _, rfl, _, _, rfl⟩
    exact ⟨noRef_old _, _, rfl, curB_ref l i' h'⟩)
  have hlen := lends_at _ .var (curB_tk l i h) (b.drop (j + 1)) (b.take j)
  rw [el] at hlen
  refine .lent rfl _ _ _ hL (Eq.mp (congrArg (fun x => Lends x (Abs.deads j ++ curB l i h :: Abs.deads (b.drop (j + 1)).length)) eb.symm) hlen) hv ?_
  rintro _ _ _ ⟨_, ⟨a, i', h', h1, h2, rfl, h3, rfl⟩, rfl⟩
  cases h2
  rw [shiftK_old, List.append_nil]
  have em := merge_at [AV.list none (rows tByte l), .val (.int .i64 i), .val (.int .i64 h)] [AV.list none (rows tByte l), .val (.int .i64 i'), .val (.int .i64 h')] .var (b.drop (j + 1)) (b.take j)
  rw [el] at em
  have e2 : merge b (Abs.deads j ++ curB l i h :: Abs.deads (b.drop (j + 1)).length) (Abs.deads j ++ curB l i' h' :: Abs.deads (b.drop (j + 1)).length) = b.set j (curB l i' h') := by
    rw [es]
    refine Eq.trans ?_ em
    show merge b _ _ = merge (b.take j ++ curB l i h :: b.drop (j + 1)) _ _
    rw [← eb]; rfl
  rw [e2]; exact hk a i' h' h1 h3
/-- .. and what is handed back is the caller's own, in slices G a -/
structure DrwK {α : Type} (mo : Bool) (P : Program) (f : Nat) (args : List AV) (Q : α → Prop) (Z : Nat → α → AV) (G : α → Fr) : Prop where
  sh : ∀ n a, shiftK n (Z 0 a) = Z n a
  nr : ∀ a, noRef (Z 0 a) = true
  lent : ∀ l i h, CurOk l i → Lent mo P f [curB l i h] (.bptr 0 0 :: args) (fun r b1 f1 => ∃ a i' h', CurOk l i' ∧ b1 = [curB l i' h'] ∧ f1 = G a ∧ Q a ∧ r = Z 0 a)
def DrwEndK {α : Type} (l : List Int) (Q : α → Prop) (Z : Nat → α → AV) (G : α → Fr) (r : AV) (b1 : List ABox) (fr : Fr) : Prop := ∃ a i' h' bs, CurOk l i' ∧ b1 = curB l i' h' :: bs ∧ Q a ∧ r = Z 0 a ∧ fr = G a
theorem DrwEndK.at {α : Type} {l : List Int} {Q : α → Prop} {Z : Nat → α → AV} {G : α → Fr} {r : AV} {i h : Int} {bs : List ABox} {fr : Fr} (a : α) (hc : CurOk l i) (hq : Q a) (he : r = Z 0 a) (hf : fr = G a) : DrwEndK l Q Z G r (curB l i h :: bs) fr := ⟨a, i, h, bs, hc, rfl, hq, he, hf⟩
theorem Lent.trimK {f : Nat} {b0 : List ABox} {args : List AV} {Φ Ψ : AV → List ABox → Fr → Prop} (h : Lent mo P f b0 args Φ)
    (hΦ : ∀ r b fr, Φ r b fr → Ψ r (b.take b0.length) fr ∧ inB b0.length r ∧ ∀ x ∈ b.take b0.length, ∀ k cs, x = .cells k cs → inB.inBL b0.length cs) : Lent mo P f b0 args Ψ := by
  rw [Lent_eq] at *
  refine ⟨h.1, fun w F vs box0 q a b c d e g => (h.2 w F vs box0 q a b c d e g).mono ?_⟩
  rintro en w' ⟨v, F', box1, tok, frs, r, b1, h1, h2, h3, h4, h5, h6, h7, h8, h9, h10, h11, h12, h13, h14, h15, h16⟩
  obtain ⟨k1, k2, k3⟩ := hΦ _ _ _ h1
  have hle : box0.length ≤ box1.length := by
    rcases Nat.lt_or_ge box1.length box0.length with h | h
    · have := getElem?_lt (h6 box1.length _ (List.getElem?_eq_getElem h)); omega
    · exact h
  have lv : ∀ j, j < b0.length → live (b1.take b0.length) j → live b1 j := fun j hj hl hd => hl (by rw [List.getElem?_take, if_pos hj]; exact hd)
  refine ⟨v, F', box1.take b0.length, tok, frs, _, b1.take b0.length, k1, h2, h3, h4, h5, fun j d hj => ?_, by rw [List.length_take, List.length_take, h7], fun j b c hj hb => ?_, fun j b c hj hl => ?_, fun i j b c c' hi hj li lj => ?_, fun j d x hj hx => ?_, h12, h13, h14, fun k b j c hk hj => ?_, h16.take k2⟩
  · rw [List.getElem?_take, if_pos (by have := getElem?_lt hj; omega)]; exact h6 j d hj
  · have := (take_get hb).2; omega
  · obtain ⟨e1, e2⟩ := take_get hj
    exact h9 j b c e1 (lv j e2 hl)
  · obtain ⟨e1, e2⟩ := take_get hi
    obtain ⟨e3, e4⟩ := take_get hj
    exact h10 i j b c c' e1 e3 (lv i e2 li) (lv j e4 lj)
  · obtain ⟨e1, e2⟩ := take_get hj
    obtain ⟨e3, e4⟩ := take_get hx
    intro hor
    exact (h11 j d x e1 e3 hor).take (fun k cs he => k3 x (List.mem_of_getElem? hx) k cs he)
  · obtain ⟨e1, e2⟩ := take_get hj
    exact fun hl => h15 k b j c hk e1 (lv j e2 hl)
theorem inB_noRef (m : Nat) : ∀ {x : AV}, noRef x = true → inB m x
  | .bptr _ _, h => nomatch h
  | .bsl _ _, h => nomatch h
  | .bmap _, h => nomatch h
  | .tag _ x, h => inB_noRef m (x := x) h
  | .agg cs, h => inB_noRefL m (cs := cs) h
  | .tup cs, h => inB_noRefL m (cs := cs) h
  | .clo _ a b, h => by
    have h : (noRef.noRefL a && noRef.noRefL b) = true := h
    rw [Bool.and_eq_true] at h
    exact ⟨inB_noRefL m h.1, inB_noRefL m h.2⟩
  | .cond _ _, h => nomatch h
  | .any, _ => trivial
  | .val _, _ => trivial
  | .str _, _ => trivial
  | .list _ _, _ => trivial
  | .rptr _, _ => trivial
where inB_noRefL (m : Nat) : ∀ {cs : List AV}, noRef.noRefL cs = true → inB.inBL m cs
  | [], _ => trivial
  | c :: cs, h => by
    have h : (noRef c && noRef.noRefL cs) = true := h
    rw [Bool.and_eq_true] at h
    exact ⟨inB_noRef m h.1, inB_noRefL m h.2⟩
theorem DrwK.of {α : Type} {f : Nat} {args : List AV} {Q : α → Prop} {Z : Nat → α → AV} {G : α → Fr} (sh : ∀ n a, shiftK n (Z 0 a) = Z n a) (nr : ∀ a, noRef (Z 0 a) = true) (h : ∀ l i h, CurOk l i → Lent mo P f [curB l i h] (.bptr 0 0 :: args) (DrwEndK l Q Z G)) : DrwK mo P f args Q Z G :=
  ⟨sh, nr, fun l i h0 hi => (h l i h0 hi).trimK (by
    rintro r b fr ⟨a, i', h', bs, h1, rfl, h2, rfl, rfl⟩
    refine ⟨⟨a, i', h', h1, rfl, rfl, h2, rfl⟩, inB_noRef _ (nr a), fun x hx k cs he => ?_⟩
    rw [List.mem_singleton.1 hx] at he
    exact curB_in l i' h' _ k cs he)⟩
/-- a draw by a code -/
def Drt {α : Type} (mo : Bool) (P : Program) (f : Nat) (Q : α → Prop) (X : α → Tr) : Prop :=
  ∀ l i, CurOk l i → Lent mo P f [] [.list none (rows tByte l)] (fun r b1 f1 => ∃ a, b1 = [] ∧ f1 = [] ∧ Q a ∧ r = old (X a))
theorem Drt.of {α : Type} {f : Nat} {Q : α → Prop} {X : α → Tr} (h : ∀ l i, CurOk l i → Lent mo P f [] [.list none (rows tByte l)] (fun r _ _ => ∃ a, Q a ∧ Sees0 r (old (X a)))) : Drt mo P f Q X := fun l i hi =>
  (h l i hi).trim (by
    rintro r b fr ⟨a, h2, h3⟩
    exact ⟨_, ⟨a, by simp, rfl, h2, rfl⟩, h3, fun x hx => by simp at hx⟩)
theorem FinalC.hide {Φ : AV → List ABox → Fr → Prop} {r : AV} {b : List ABox} {f : Fr} (hk : Φ r (Abs.deads b.length) f) : FinalC Φ r b f := ⟨_, Lends.deads b, hk⟩
theorem ACall.drt {α : Type} {f : Nat} {vs : List AV} {l : List Int} {i : Int} {b : List ABox} {fr : Fr} {k : AV → List ABox → Fr → Prop} {Q : α → Prop} {X : α → Tr} (hD : Drt mo P f Q X) (hi : CurOk l i) (hv : SeesL Sees0 vs [.list none (rows tByte l)])
    (hk : ∀ a, Q a → k (Abs.old (X a)) b fr) : ACall (Kn mo P) true f vs b fr k := by
  refine .lent rfl (Abs.deads b.length) _ _ ((hD l i hi).wide b.length (fun x hx => by rw [List.mem_singleton.1 hx]; exact trivial) (by simp) (by rintro r b fr ⟨_, rfl, _⟩; rfl)) (Lends.deads b) hv.toC ?_
  rintro _ _ _ ⟨_, ⟨a, rfl, rfl, h2, rfl⟩, rfl⟩
  rw [shiftK_old, List.append_nil, List.nil_append, merge_deads]; exact hk a h2
end Abs
end Go.Proofs.Ytplfkocigmnpmaa
namespace Go.Proofs.Ytplfkocigmnpmaa
open Abs
theorem and255 (a : BitVec 64) : 0 ≤ IntKind.i64.wrap (((a &&& BitVec.ofInt 64 255).toNat : Nat) : Int) ∧ IntKind.i64.wrap (((a &&& BitVec.ofInt 64 255).toNat : Nat) : Int) < 256 := by
  have h : (a &&& BitVec.ofInt 64 255).toNat ≤ 255 := by
    rw [BitVec.toNat_and]
    exact Nat.and_le_right
  rw [wrap64 (by omega) (by omega)]
  omega
theorem dByte.drw : Drw false Try.prog 90 [] (fun n : Int => 0 ≤ n ∧ n < 256) (fun n => .v (.int .i64 n)) := by
  refine Drw.of fun l i h hi => dByte.ofL rfl rfl ?_
  obtain ⟨h0, h1, h2, h3⟩ := id hi
  repeat' first
    | contradiction | exact trivial
    | (conv => whnf
       first | refine Need.mk (fun h => h) ?_ | refine Need.mk rfl ?_ | refine Need.mk ⟨rfl, Nat.le_of_ble_eq_true rfl⟩ ?_ | refine Need.mk (Nat.le_of_ble_eq_true rfl) ?_ | refine Need.fin ?_ | refine Need.mk ?_ ?_ | refine Ix.strsF rfl ?_ | refine Ix.strs rfl ?_ ?_ | refine Cut.strs rfl ?_ ?_ | refine Ix.mapF (fun _ => rfl) ?_ | refine Ix.map (fun _ => rfl) ?_ ?_ | refine Cut.map (fun _ => rfl) ?_ ?_ | refine Fork.yes (by assumption) ?_ | refine Fork.no (by assumption) ?_ | refine Fork.decYes (by omega) ?_ | refine Fork.decNo (by omega) ?_ | refine Fork.dec (fun _ => ?_) (fun _ => ?_) | refine Fork.bne (fun _ => ?_) (fun _ => ?_) | refine Fork.beq (fun _ => ?_) (fun _ => ?_) | refine Fork.seq (fun _ => ?_) (fun _ => ?_) | refine Fork.sne (fun _ => ?_) (fun _ => ?_) | refine Fork.neg (fun _ => ?_) (fun _ => ?_) | refine Fork.mk (fun _ => ?_) (fun _ => ?_) | refine HAlt.mk ?_ ?_ | apply HJoin.mk3 | exact HEnd.mk rfl rfl rfl | refine HEnd.mk ?_ ?_ ?_ | refine Round.mk ?_ | refine NilQ.mk (fun b hb => ?_) | refine forceK_of ?_ | refine forceBx_of ?_ | refine unG_old ?_ | refine unG_gv ?_ | refine Lit.read rfl ?_ | refine LitO.own rfl ?_ | refine FinVal.keep ?_ | refine FinAgg.keep ?_ | refine Final.mk rfl rfl | refine Final.mk ?_ rfl | refine Final.mk ?_ ?_ | refine FinalT.mk ?_ ?_ | refine FinalI.mk ?_ | refine FinalC.cur ?_)
    | refine AV.bool_congr ?_ | refine AV.int_congr ?_ | refine AV.str_congr ?_ | refine AV.list_congr ?_ | with_reducible rfl | refine fr1 ?_ | refine fr2 ?_ ?_
  · refine DrwEnd.at _ ⟨?_, ?_, h2, h3⟩ (and255 _)
    · rw [wrap64 (by omega) (by omega)]; omega
    · rw [wrap64 (by omega) (by omega)]; simp only [length_rows] at *; omega
  · exact DrwEnd.at _ hi (and255 _)
theorem dBelow.drw (n : Int) (hn : n ≤ 9223372036854775807) : Drw false Try.prog 50 [.val (.int .i64 n)] (fun r : Int => 0 ≤ r ∧ (r < n ∨ r = 0)) (fun n => .v (.int .i64 n)) := by
  refine Drw.of fun l i h hi => dBelow.ofL rfl rfl ?_
  repeat' first
    | contradiction | exact trivial
    | (conv => whnf
       first | refine Need.mk (fun h => h) ?_ | refine Need.mk rfl ?_ | refine Need.mk ⟨rfl, Nat.le_of_ble_eq_true rfl⟩ ?_ | refine Need.mk (Nat.le_of_ble_eq_true rfl) ?_ | refine Need.fin ?_ | refine Need.mk ?_ ?_ | refine Ix.strsF rfl ?_ | refine Ix.strs rfl ?_ ?_ | refine Cut.strs rfl ?_ ?_ | refine Ix.mapF (fun _ => rfl) ?_ | refine Ix.map (fun _ => rfl) ?_ ?_ | refine Cut.map (fun _ => rfl) ?_ ?_ | refine Fork.yes (by assumption) ?_ | refine Fork.no (by assumption) ?_ | refine Fork.decYes (by omega) ?_ | refine Fork.decNo (by omega) ?_ | refine Fork.dec (fun _ => ?_) (fun _ => ?_) | refine Fork.bne (fun _ => ?_) (fun _ => ?_) | refine Fork.beq (fun _ => ?_) (fun _ => ?_) | refine Fork.seq (fun _ => ?_) (fun _ => ?_) | refine Fork.sne (fun _ => ?_) (fun _ => ?_) | refine Fork.neg (fun _ => ?_) (fun _ => ?_) | refine Fork.mk (fun _ => ?_) (fun _ => ?_) | refine HAlt.mk ?_ ?_ | apply HJoin.mk3 | exact HEnd.mk rfl rfl rfl | refine HEnd.mk ?_ ?_ ?_ | refine Round.mk ?_ | refine NilQ.mk (fun b hb => ?_) | refine forceK_of ?_ | refine forceBx_of ?_ | refine unG_old ?_ | refine unG_gv ?_ | refine Lit.read rfl ?_ | refine LitO.own rfl ?_ | refine FinVal.keep ?_ | refine FinAgg.keep ?_ | refine Final.mk rfl rfl | refine Final.mk ?_ rfl | refine Final.mk ?_ ?_ | refine FinalT.mk ?_ ?_ | refine FinalI.mk ?_ | refine FinalC.cur ?_ | refine ACall.drw (dByte.drw) rfl (by assumption) (by repeat' first | exact SeesL.nil | refine SeesL.cons ?_ ?_ | exact Or.inl ⟨rfl, rfl⟩ | exact Or.inr (Sees0.str _) | exact Or.inr (Sees0.val _) | exact Or.inr (Sees0.olds _ _) | exact Or.inr (Sees0.old _) | exact Or.inr (Sees0.oldagg _) | exact Or.inr (Sees0.list rfl) | exact Or.inr Sees0.nil) rfl (fun a i' h' hi' hq => ?_))
    | refine AV.bool_congr ?_ | refine AV.int_congr ?_ | refine AV.str_congr ?_ | refine AV.list_congr ?_ | with_reducible rfl | refine fr1 ?_ | refine fr2 ?_ ?_
  · exact DrwEnd.at _ (by assumption) ⟨Int.le_refl _, .inr rfl⟩
  · refine DrwEnd.at _ (by assumption) ⟨Int.tmod_nonneg _ hq.1, .inl (Int.tmod_lt_of_pos _ (by omega))⟩
  · rename_i a1 _ _ _ q1 a2 _ _ _ q2
    have e : IntKind.i64.wrap (IntKind.i64.wrap (IntKind.i64.wrap (a1 * 65536) + IntKind.i64.wrap (a2 * 256)) + a) = a1 * 65536 + a2 * 256 + a := by
      rw [wrap64 (x := a1 * 65536) (by omega) (by omega), wrap64 (x := a2 * 256) (by omega) (by omega), wrap64 (x := a1 * 65536 + a2 * 256) (by omega) (by omega), wrap64 (by omega) (by omega)]
    refine DrwEnd.at _ (by assumption) ⟨Int.tmod_nonneg _ ?_, .inl (Int.tmod_lt_of_pos _ (by omega))⟩
    rw [e]; omega
theorem dOnce.drw (n : Int) (hn : n ≤ 9223372036854775807) : Drw false Try.prog 51 [.val (.int .i64 n)] (fun _ : Bool => True) (fun b => .v (.bool b)) := by
  refine Drw.of fun l i h hi => dOnce.ofL rfl rfl ?_
  have hd := dBelow.drw n hn
  repeat' first
    | contradiction | exact trivial
    | (conv => whnf
       first | refine Need.mk (fun h => h) ?_ | refine Need.mk rfl ?_ | refine Need.mk ⟨rfl, Nat.le_of_ble_eq_true rfl⟩ ?_ | refine Need.mk (Nat.le_of_ble_eq_true rfl) ?_ | refine Need.fin ?_ | refine Need.mk ?_ ?_ | refine Ix.strsF rfl ?_ | refine Ix.strs rfl ?_ ?_ | refine Cut.strs rfl ?_ ?_ | refine Ix.mapF (fun _ => rfl) ?_ | refine Ix.map (fun _ => rfl) ?_ ?_ | refine Cut.map (fun _ => rfl) ?_ ?_ | refine Fork.yes (by assumption) ?_ | refine Fork.no (by assumption) ?_ | refine Fork.decYes (by omega) ?_ | refine Fork.decNo (by omega) ?_ | refine Fork.dec (fun _ => ?_) (fun _ => ?_) | refine Fork.bne (fun _ => ?_) (fun _ => ?_) | refine Fork.beq (fun _ => ?_) (fun _ => ?_) | refine Fork.seq (fun _ => ?_) (fun _ => ?_) | refine Fork.sne (fun _ => ?_) (fun _ => ?_) | refine Fork.neg (fun _ => ?_) (fun _ => ?_) | refine Fork.mk (fun _ => ?_) (fun _ => ?_) | refine HAlt.mk ?_ ?_ | apply HJoin.mk3 | exact HEnd.mk rfl rfl rfl | refine HEnd.mk ?_ ?_ ?_ | refine Round.mk ?_ | refine NilQ.mk (fun b hb => ?_) | refine forceK_of ?_ | refine forceBx_of ?_ | refine unG_old ?_ | refine unG_gv ?_ | refine Lit.read rfl ?_ | refine LitO.own rfl ?_ | refine FinVal.keep ?_ | refine FinAgg.keep ?_ | refine Final.mk rfl rfl | refine Final.mk ?_ rfl | refine Final.mk ?_ ?_ | refine FinalT.mk ?_ ?_ | refine FinalI.mk ?_ | refine FinalC.cur ?_ | refine ACall.drw (hd) rfl (by assumption) (by repeat' first | exact SeesL.nil | refine SeesL.cons ?_ ?_ | exact Or.inl ⟨rfl, rfl⟩ | exact Or.inr (Sees0.str _) | exact Or.inr (Sees0.val _) | exact Or.inr (Sees0.olds _ _) | exact Or.inr (Sees0.old _) | exact Or.inr (Sees0.oldagg _) | exact Or.inr (Sees0.list rfl) | exact Or.inr Sees0.nil) rfl (fun a i' h' hi' hq => ?_))
    | refine AV.bool_congr ?_ | refine AV.int_congr ?_ | refine AV.str_congr ?_ | refine AV.list_congr ?_ | with_reducible rfl | refine fr1 ?_ | refine fr2 ?_ ?_
  exact DrwEnd.at _ (by assumption) trivial
theorem getD_in {α : Type} {xs : List α} {n : Int} (d : α) (h0 : xs ≠ []) (h : 0 ≤ n ∧ (n < xs.length ∨ n = 0)) : xs.getD n.toNat d ∈ xs := by
  have hp := List.length_pos_iff.2 h0
  have hn : n.toNat < xs.length := by omega
  simp [List.getD, hn]
theorem dInt.drw (xs : List Int) (h0 : xs ≠ []) (h1 : xs.length ≤ 256) : Drw false Try.prog 91 [.list none (rows Ty.int xs)] (fun n : Int => n ∈ xs) (fun n => .v (.int .i64 n)) := by
  have hp := List.length_pos_iff.2 h0
  refine Drw.of fun l i h hi => dInt.ofL rfl rfl ?_
  have hd := dBelow.drw ((rows Ty.int xs).length : Nat) (by rw [length_rows]; omega)
  repeat' first
    | contradiction | exact trivial
    | (conv => whnf
       first | refine Need.mk (fun h => h) ?_ | refine Need.mk rfl ?_ | refine Need.mk ⟨rfl, Nat.le_of_ble_eq_true rfl⟩ ?_ | refine Need.mk (Nat.le_of_ble_eq_true rfl) ?_ | refine Need.fin ?_ | refine Need.mk ?_ ?_ | refine Ix.strsF rfl ?_ | refine Ix.strs rfl ?_ ?_ | refine Cut.strs rfl ?_ ?_ | refine Ix.mapF (fun _ => rfl) ?_ | refine Ix.map (fun _ => rfl) ?_ ?_ | refine Cut.map (fun _ => rfl) ?_ ?_ | refine Fork.yes (by assumption) ?_ | refine Fork.no (by assumption) ?_ | refine Fork.decYes (by omega) ?_ | refine Fork.decNo (by omega) ?_ | refine Fork.dec (fun _ => ?_) (fun _ => ?_) | refine Fork.bne (fun _ => ?_) (fun _ => ?_) | refine Fork.beq (fun _ => ?_) (fun _ => ?_) | refine Fork.seq (fun _ => ?_) (fun _ => ?_) | refine Fork.sne (fun _ => ?_) (fun _ => ?_) | refine Fork.neg (fun _ => ?_) (fun _ => ?_) | refine Fork.mk (fun _ => ?_) (fun _ => ?_) | refine HAlt.mk ?_ ?_ | apply HJoin.mk3 | exact HEnd.mk rfl rfl rfl | refine HEnd.mk ?_ ?_ ?_ | refine Round.mk ?_ | refine NilQ.mk (fun b hb => ?_) | refine forceK_of ?_ | refine forceBx_of ?_ | refine unG_old ?_ | refine unG_gv ?_ | refine Lit.read rfl ?_ | refine LitO.own rfl ?_ | refine FinVal.keep ?_ | refine FinAgg.keep ?_ | refine Final.mk rfl rfl | refine Final.mk ?_ rfl | refine Final.mk ?_ ?_ | refine FinalT.mk ?_ ?_ | refine FinalI.mk ?_ | refine FinalC.cur ?_ | refine ACall.drw (hd) rfl (by assumption) (by repeat' first | exact SeesL.nil | refine SeesL.cons ?_ ?_ | exact Or.inl ⟨rfl, rfl⟩ | exact Or.inr (Sees0.str _) | exact Or.inr (Sees0.val _) | exact Or.inr (Sees0.olds _ _) | exact Or.inr (Sees0.old _) | exact Or.inr (Sees0.oldagg _) | exact Or.inr (Sees0.list rfl) | exact Or.inr Sees0.nil) rfl (fun a i' h' hi' hq => ?_))
    | refine AV.bool_congr ?_ | refine AV.int_congr ?_ | refine AV.str_congr ?_ | refine AV.list_congr ?_ | with_reducible rfl | refine fr1 ?_ | refine fr2 ?_ ?_
  all_goals try simp only [length_rows] at *
  exact DrwEnd.at _ (by assumption) (getD_in _ h0 hq)
def words : List Str := [[97], [98], [111, 110], [55], [49, 48], [57, 57, 57, 57], [49, 48, 48, 48, 48], [48, 48, 55], [48], [], [65], [63, 120], [63, 63], [63], [97, 98, 99, 100, 101, 102, 103, 104], [97, 98, 99, 100, 101, 102, 103, 104, 105], [63, 97, 98, 99, 100, 101, 102, 103, 104], [97, 45, 98], [120, 49], [49, 120], [45, 51]]
/-- a new cursor -/
def hNext (l : List Int) (a : Nat × Int) : Int := IntKind.i64.wrap ((((BitVec.ofInt 64 (IntKind.i64.wrap (IntKind.i64.wrap (IntKind.i64.wrap (a.2 * 167) + IntKind.i64.wrap (l.getD (a.1 : Int).toNat default)) + 29))) &&& BitVec.ofInt 64 1073741823).toNat : Nat) : Int)
theorem dNew.ins {mo : Bool} (l : List Int) (i0 : Int) (hl : CurOk l i0) (b : List ABox) (f : Fr) : Abs.Ins mo Try.prog 49 b f [.list none (rows tByte l)] (fun r b1 f1 => ∃ i h, r = .bptr b.length 0 ∧ b1 = b ++ [curB l i h] ∧ CurOk l i ∧ f1 = f) := by
  refine dNew.ofI rfl ?_
  obtain ⟨h0, h1, h2, h3⟩ := id hl
  repeat' first
    | contradiction | exact trivial
    | (conv => whnf
       first | refine Need.mk (fun h => h) ?_ | refine Need.mk rfl ?_ | refine Need.mk ⟨rfl, Nat.le_of_ble_eq_true rfl⟩ ?_ | refine Need.mk (Nat.le_of_ble_eq_true rfl) ?_ | refine Need.fin ?_ | refine Need.mk ?_ ?_ | refine Ix.strsF rfl ?_ | refine Ix.strs rfl ?_ ?_ | refine Cut.strs rfl ?_ ?_ | refine Ix.mapF (fun _ => rfl) ?_ | refine Ix.map (fun _ => rfl) ?_ ?_ | refine Cut.map (fun _ => rfl) ?_ ?_ | refine Fork.yes (by assumption) ?_ | refine Fork.no (by assumption) ?_ | refine Fork.decYes (by omega) ?_ | refine Fork.decNo (by omega) ?_ | refine Fork.dec (fun _ => ?_) (fun _ => ?_) | refine Fork.bne (fun _ => ?_) (fun _ => ?_) | refine Fork.beq (fun _ => ?_) (fun _ => ?_) | refine Fork.seq (fun _ => ?_) (fun _ => ?_) | refine Fork.sne (fun _ => ?_) (fun _ => ?_) | refine Fork.neg (fun _ => ?_) (fun _ => ?_) | refine Fork.mk (fun _ => ?_) (fun _ => ?_) | refine HAlt.mk ?_ ?_ | apply HJoin.mk3 | exact HEnd.mk rfl rfl rfl | refine HEnd.mk ?_ ?_ ?_ | refine Round.mk ?_ | refine NilQ.mk (fun b hb => ?_) | refine forceK_of ?_ | refine forceBx_of ?_ | refine unG_old ?_ | refine unG_gv ?_ | refine Lit.read rfl ?_ | refine LitO.own rfl ?_ | refine FinVal.keep ?_ | refine FinAgg.keep ?_ | refine Final.mk rfl rfl | refine Final.mk ?_ rfl | refine Final.mk ?_ ?_ | refine FinalT.mk ?_ ?_ | refine FinalI.mk ?_ | refine FinalC.allA ?_)
    | refine AV.bool_congr ?_ | refine AV.int_congr ?_ | refine AV.str_congr ?_ | refine AV.list_congr ?_ | with_reducible rfl | refine fr1 ?_ | refine fr2 ?_ ?_
  refine ALoop.mk (Nat × Int) (fun a => ⟨[(0, .list none (rows tByte l)), (3, .val (.int .i64 a.2)), (4, .val (.int .i64 a.1))], b, f⟩) (fun a => a.1 ≤ l.length) (fun a => l.length - a.1) ⟨(0, IntKind.i64.wrap (851207 + IntKind.i64.wrap (3 * ((rows tByte l).length : Nat)))), Nat.zero_le _, ?_⟩ (fun a ha => ?_)
  · refine Weak.mk ?_ (List.take_length ..) rfl (Nat.le_refl _) (Or.inl (Nat.le_refl _))
    repeat' first
      | exact trivial
      | refine And.intro ?_ ?_
      | with_reducible rfl
      | refine AV.int_congr ?_
      | refine AV.bool_congr ?_
      | refine AV.str_congr ?_
      | refine AV.list_congr ?_
      | (apply rfl)
  repeat' first
    | contradiction | exact trivial
    | (conv => whnf
       first | refine Need.mk (fun h => h) ?_ | refine Need.mk rfl ?_ | refine Need.mk ⟨rfl, Nat.le_of_ble_eq_true rfl⟩ ?_ | refine Need.mk (Nat.le_of_ble_eq_true rfl) ?_ | refine Need.fin ?_ | refine Need.mk ?_ ?_ | refine Ix.strsF rfl ?_ | refine Ix.strs rfl ?_ ?_ | refine Cut.strs rfl ?_ ?_ | refine Ix.mapF (fun _ => rfl) ?_ | refine Ix.map (fun _ => rfl) ?_ ?_ | refine Cut.map (fun _ => rfl) ?_ ?_ | refine Fork.yes (by assumption) ?_ | refine Fork.no (by assumption) ?_ | refine Fork.decYes (by omega) ?_ | refine Fork.decNo (by omega) ?_ | refine Fork.dec (fun _ => ?_) (fun _ => ?_) | refine Fork.bne (fun _ => ?_) (fun _ => ?_) | refine Fork.beq (fun _ => ?_) (fun _ => ?_) | refine Fork.seq (fun _ => ?_) (fun _ => ?_) | refine Fork.sne (fun _ => ?_) (fun _ => ?_) | refine Fork.neg (fun _ => ?_) (fun _ => ?_) | refine Fork.mk (fun _ => ?_) (fun _ => ?_) | refine HAlt.mk ?_ ?_ | apply HJoin.mk3 | exact HEnd.mk rfl rfl rfl | refine HEnd.mk ?_ ?_ ?_ | refine Round.mk ?_ | refine NilQ.mk (fun b hb => ?_) | refine forceK_of ?_ | refine forceBx_of ?_ | refine unG_old ?_ | refine unG_gv ?_ | refine Lit.read rfl ?_ | refine LitO.own rfl ?_ | refine FinVal.keep ?_ | refine FinAgg.keep ?_ | refine Final.mk rfl rfl | refine Final.mk ?_ rfl | refine Final.mk ?_ ?_ | refine FinalT.mk ?_ ?_ | refine FinalI.mk ?_ | refine FinalC.allA ?_)
    | refine AV.bool_congr ?_ | refine AV.int_congr ?_ | refine AV.str_congr ?_ | refine AV.list_congr ?_ | with_reducible rfl | refine fr1 ?_ | refine fr2 ?_ ?_
  all_goals try simp only [length_rows, Bool.and_eq_true, decide_eq_true_eq] at *
  · refine ⟨(a.1 + 1, hNext l a), ?_, ?_, ?_⟩
    · show a.1 + 1 ≤ l.length
      omega
    · refine Weak.mk ?_ (List.take_length ..) rfl (Nat.le_refl _) (Or.inl (Nat.le_refl _))
      repeat' first
        | exact trivial
        | refine And.intro ?_ ?_
        | with_reducible rfl
        | refine AV.int_congr ?_
        | refine AV.bool_congr ?_
        | refine AV.str_congr ?_
        | refine AV.list_congr ?_
        | (apply rfl)
      rw [wrap64 (by omega) (by omega)]; rfl
    · show l.length - (a.1 + 1) < l.length - a.1
      omega
  · exact ⟨0, a.2, by first | rfl | trivial, by first | rfl | trivial, ⟨Int.le_refl _, by omega, h2, h3⟩, by first | rfl | trivial⟩
theorem Abs.ACall.newC {f : Nat} {l : List Int} {b : List ABox} {fr : Fr} {k : AV → List ABox → Fr → Prop} {mo : Bool} {vs : List AV} (h : Abs.Ins mo Try.prog f b fr vs (fun r b1 f1 => ∃ i h, r = .bptr b.length 0 ∧ b1 = b ++ [curB l i h] ∧ CurOk l i ∧ f1 = fr)) (hn : noCond vs = true)
    (hk : ∀ i h, CurOk l i → k (.bptr b.length 0) (b ++ [curB l i h]) fr) : ACall (Kn mo Try.prog) true f vs b fr k :=
  .ins rfl _ h hn (by rintro _ _ _ ⟨i, q, rfl, rfl, hi, rfl⟩; exact hk i q hi)
end Go.Proofs.Ytplfkocigmnpmaa
namespace Go.Proofs.Ytplfkocigmnpmaa
namespace Abs
theorem BoxIn.here {A bs : List ABox} {n : Nat} (h : n = A.length) : BoxIn (A ++ bs) n bs := by subst h; exact BoxIn.last _ _
/-- the boxes of a tree are turned into another one's -/
def TAt (b : List ABox) (n : Nat) (X Y : Tr) (b' : List ABox) : Prop := ∃ pre post, pre.length = n ∧ b = pre ++ gb X n ++ post ∧ pre ++ gb Y n ++ post = b'
theorem TAt.here {A : List ABox} {n : Nat} {X Y : Tr} (h : n = A.length) : TAt (A ++ gb X n) n X Y (A ++ gb Y n) := ⟨A, [], h.symm, by simp, by simp⟩
theorem TAt.more {A D A' : List ABox} {n : Nat} {X Y : Tr} (h : TAt A n X Y A') : TAt (A ++ D) n X Y (A' ++ D) := by
  obtain ⟨pre, post, h1, rfl, rfl⟩ := h
  exact ⟨pre, post ++ D, h1, by simp, by simp⟩
theorem ACall.turnT {C : Con} {f : Nat} {vs : List AV} {b : List ABox} {fr : Fr} {k : AV → List ABox → Fr → Prop} (n : Nat) (b' : List ABox) (ys : List AV) (x x' : Tr) (r : AV) (h : C.turn f (gb x 0) ys r (gb x' 0)) (hr : isScalR r = true)
    (hn : nb x' = nb x) (hv : SeesL (SeesM x n) vs ys) (ht : TAt b n x x' b') (hk : k r b' fr) : ACall C true f vs b fr k := by
  obtain ⟨pre, post, rfl, h1, h2⟩ := ht
  exact ACall.turn' b' ys x x' r pre post h hr h1 hn hv h2 hk
theorem ACall.unbN {C : Con} {lend : Bool} {f : Nat} {vs : List AV} {b : List ABox} {fr : Fr} {k : AV → List ABox → Fr → Prop} (n : Nat) (ys : List AV) (x : Tr) (h : C.own f ys x) (hv : SeesL (SeesB b) vs ys) (hn : b.length = n)
    (hk : k (gv x n) (b ++ gb x n) fr) : ACall C lend f vs b fr k := by
  subst hn; exact ACall.unb ys x h hv hk
theorem ACall.unbN' {C : Con} {lend : Bool} {f : Nat} {vs : List AV} {b : List ABox} {fr : Fr} {k : AV → List ABox → Fr → Prop} (n : Nat) (b' : List ABox) (ys : List AV) (x : Tr) (h : C.own f ys x) (hv : SeesL (SeesB b) vs ys) (hn : b.length = n)
    (hb : b ++ gb x n = b') (hk : k (gv x n) b' fr) : ACall C lend f vs b fr k := by
  subst hn; subst hb; exact ACall.unb ys x h hv hk
theorem sees_mk (x : Tr) (k : Nat) (b : List ABox) (n : Nat) (hok : okT x = true) (h : BoxIn b n (gb (mk x k) n)) : SeesB b (gv x n) (old (mk x k)) := by
  rw [← gv_mk x k n]
  exact sees_gv (mk x k) b n (by rw [okT_mk]; exact hok) h
end Abs
end Go.Proofs.Ytplfkocigmnpmaa
