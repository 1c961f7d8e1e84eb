/-
  What stands below some laws' proofs, part 1: contracts of functions, by an evaluator.
-/
import Derived.Test.YtoindmahilbalaaGreatK5
import Derived.Laws.RangeAny
import Derived.Sort.Row
import Derived.Sort.Grow
import Derived.Shelf.Sort.Plain
import Derived.Shelf.Slices.CompactS
import Derived.Shelf.Slices.In.SortNone
import Derived.Test.YtoindmahilbalaaGreatProg
import Derived.Lib.SlicesCompact
import Derived.Sort.Statements
import Derived.Shelf.SlIter.Nil
import Derived.Shelf.SortM.Plain
import Derived.Shelf.SortM.SortNone
import Derived.Ground.GgzProg
import Derived.Ground.SlgmProg
import Derived.Maps.Own
import Derived.Shelf.Spec.SlicesGrow
import Derived.Ground.Names8Prog
import Derived.Shelf.Strings.OnBuilder
import Derived.Test.YtoindmahilbalaaGreatRows
import Derived.ProofKit
import Derived.Deep.Slices
namespace Go.Proofs.YtoindmahilbalaaGreat
open Abs
/-- the code of a function, as the evaluator reads it -/
def IrAt (P : Program) (k : Nat) (c : ACode) (K : List Nat) (rs : List RRes) (n : Nat) : Prop := ∃ fn, P.funcs[k]? = some fn ∧ fn.body.isSome = true ∧ (fn.name == "runtime.NumGoroutine") = false ∧ n = fn.ntmps ∧ cCode P fn.ntmps (fn.body.getD .skip) = c ∧ fn.results.toList.map (cRes P) = rs ∧ K = K
theorem ir_ {P : Program} {k : Nat} {fn : Func} {c : ACode} {K : List Nat} {rs : List RRes} {n : Nat} (h1 : P.funcs[k]? = some fn) (h2 : fn.body.isSome = true := by rfl) (h3 : (fn.name == "runtime.NumGoroutine") = false := by kernel_rfl) (h4 : n = fn.ntmps := by rfl) (h5 : cCode P fn.ntmps (fn.body.getD .skip) = c := by kernel_rfl) (h6 : fn.results.toList.map (cRes P) = rs := by kernel_rfl) : IrAt P k c K rs n := ⟨fn, h1, h2, h3, h4, h5, h6, rfl⟩
theorem IrAt.of {P : Program} {k : Nat} {c : ACode} {K : List Nat} {rs : List RRes} {n : Nat} (q : IrAt P k c K rs n) {mo : Bool} {args : List AV} {r : AV} {frs : Fr} (hn : Nat.ble args.length n = true) (h : aCode (Kn mo P) K 0 c (doneK rs r frs) ⟨argEnv 0 args, [], []⟩) : Abs.Ret mo P k args r frs := by
  obtain ⟨fn, h1, h2, h3, h4, h5, h6, _⟩ := q
  exact Abs.Ret.of_ir h1 h2 h3 (h4 ▸ Nat.le_of_ble_eq_true hn) h5 h6 h
theorem IrAt.ofS {P : Program} {k : Nat} {c : ACode} {K : List Nat} {rs : List RRes} {n : Nat} (q : IrAt P k c K rs n) {mo : Bool} {args : List AV} {r : AV} (hr : isScalR r = true) (hn : Nat.ble args.length n = true) (h : aCode (Kn mo P) K 0 c (doneS rs r) ⟨argEnv 0 args, [], []⟩) : Abs.Ret mo P k args r [] := by
  obtain ⟨fn, h1, h2, h3, h4, h5, h6, _⟩ := q
  exact Abs.Ret.of_irS hr h1 h2 h3 (h4 ▸ Nat.le_of_ble_eq_true hn) h5 h6 h
theorem ble_ {a b : Nat} (h : Nat.ble a b = true := by rfl) : a ≤ b := Nat.le_of_ble_eq_true h
theorem wl_ {nb : Nat} {x y : St} (h1 : agrees x.env y.env) (h2 : x.bx.take y.bx.length = y.bx) (h3 : x.fr = y.fr) (h4 : nb ≤ y.bx.length) (h5 : x.bx.length ≤ y.bx.length := by exact Nat.le_of_ble_eq_true rfl) : Weak nb x y := .mk h1 h2 h3 h4 (.inl h5)
theorem wr_ {nb : Nat} {x y : St} (h1 : agrees x.env y.env) (h2 : x.bx.take y.bx.length = y.bx) (h3 : x.fr = y.fr) (h4 : nb ≤ y.bx.length) (h5 : inBE y.bx.length y.env := by repeat' first | exact trivial | exact Nat.le_of_ble_eq_true rfl | refine And.intro ?_ ?_) (h6 : inBX y.bx.length y.bx := by repeat' first | exact trivial | exact Nat.le_of_ble_eq_true rfl | refine And.intro ?_ ?_) : Weak nb x y := .mk h1 h2 h3 h4 (.inr ⟨h5, h6⟩)
theorem nb_ {a b : Nat} {q : Prop} (k : q) (h : a ≤ b := by exact Nat.le_of_ble_eq_true rfl) : Need (a ≤ b) q := .mk h k
def v_ (d n : Nat) : AO := s d (.mv (t n))
def r_ (l : List AO) : ACode := .region false l
def l_ (n : Nat) : AOp := .load false 1 (t n)
def a_ (k n : Nat) : AOp := .load true k (t n)
def f_ (k n : Nat) : AOp := .fadr k (t n)
def i_ (n : Int) : Operand := .const (.int .i64 n)
def q_ (a b : ACode) : ACode := .seq a b
end Go.Proofs.YtoindmahilbalaaGreat
namespace Go.Proofs.YtoindmahilbalaaGreat
open Abs
def eqAction.code : ACode := (q_ (r_ [s 2 (.box (t 0)), s 3 (.box (t 1)), s 4 (.mv (.const (.bool false)))]) (q_ (.seq (r_ [s 5 (f_ 0 2), s 6 (l_ 5), s 7 (f_ 0 3), s 8 (l_ 7), s 9 (.bin .neq (t 6) (t 8))]) (.cond (t 9) (q_ (r_ [s 4 (.mv (.const (.bool false)))]) .ret) .skip)) (q_ (.seq (r_ [s 10 (f_ 1 2), s 11 (a_ 2 10), s 12 (f_ 1 3), s 13 (a_ 2 12), s 14 (.call 154 [(t 11), (t 13)]), s 15 (.not (t 14))]) (.cond (t 15) (q_ (r_ [s 4 (.mv (.const (.bool false)))]) .ret) .skip)) (q_ (r_ [s 4 (.mv (.const (.bool true)))]) .ret))))
theorem eqAction.ir : IrAt Tryz.prog 106 eqAction.code [0, 1, 2, 3, 4] [.tmp 4] Tryz.f106.ntmps := ir_ Tryz.func106
abbrev eqAction.Ret (args : List AV) (r : AV) (frs : Fr) : Prop := Abs.Ret true Tryz.prog 106 args r frs
def eqActionS.code : ACode := (q_ (r_ [s 4 (.mv (.const (.bool false)))]) (q_ (.seq (r_ [v_ 6 0, s 7 (.len false (t 6)), v_ 8 1, s 9 (.len false (t 8)), s 10 (.bin .neq (t 7) (t 9))]) (.cond (t 10) (q_ (r_ [s 4 (.mv (.const (.bool false)))]) .ret) .skip)) (q_ (.seq (r_ [s 5 (.mv (i_ 0))]) (.block 0 (.loop (q_ (.seq (r_ [v_ 11 5, v_ 12 0, s 13 (.len false (t 12)), s 14 (.bin .lss (t 11) (t 13))]) (.cond (t 14) .skip (.exit 0))) (q_ (.block 1 (q_ (.region true [v_ 17 0, v_ 18 5, s 19 (.iadr 3 (t 17) (t 18)), s 20 (a_ 3 19), v_ 21 1, v_ 22 5, s 23 (.iadr 3 (t 21) (t 22)), s 24 (a_ 3 23), s 25 (.call 106 [(t 20), (t 24)]), s 26 (.not (t 25))]) (.cond (t 26) (q_ (r_ [s 4 (.mv (.const (.bool false)))]) .ret) .skip))) (r_ [v_ 15 5, s 16 (.bin .add (t 15) (i_ 1)), v_ 5 16])))))) (q_ (r_ [s 4 (.mv (.const (.bool true)))]) .ret))))
theorem eqActionS.ir : IrAt Tryz.prog 60 eqActionS.code [0, 1, 4, 5] [.tmp 4] Tryz.f60.ntmps := ir_ Tryz.func60
abbrev eqActionS.Ret (args : List AV) (r : AV) (frs : Fr) : Prop := Abs.Ret true Tryz.prog 60 args r frs
def eqCond.code : ACode := (q_ (r_ [s 2 (.box (t 0)), s 3 (.box (t 1)), s 4 (.mv (.const (.bool false)))]) (q_ (.seq (r_ [s 5 (f_ 0 2), s 6 (l_ 5), s 7 (f_ 0 3), s 8 (l_ 7), s 9 (.bin .neq (t 6) (t 8))]) (.cond (t 9) (q_ (r_ [s 4 (.mv (.const (.bool false)))]) .ret) .skip)) (q_ (.seq (r_ [s 10 (f_ 1 2), s 11 (a_ 2 10), s 12 (f_ 1 3), s 13 (a_ 2 12), s 14 (.call 154 [(t 11), (t 13)]), s 15 (.not (t 14))]) (.cond (t 15) (q_ (r_ [s 4 (.mv (.const (.bool false)))]) .ret) .skip)) (q_ (.seq (r_ [s 16 (f_ 3 2), s 17 (l_ 16), s 18 (f_ 3 3), s 19 (l_ 18), s 20 (.bin .neq (t 17) (t 19))]) (.cond (t 20) (q_ (r_ [s 4 (.mv (.const (.bool false)))]) .ret) .skip)) (q_ (.seq (r_ [s 21 (f_ 4 2), s 22 (l_ 21), s 23 (f_ 4 3), s 24 (l_ 23), s 25 (.bin .neq (t 22) (t 24))]) (.cond (t 25) (q_ (r_ [s 4 (.mv (.const (.bool false)))]) .ret) .skip)) (q_ (r_ [s 4 (.mv (.const (.bool true)))]) .ret))))))
theorem eqCond.ir : IrAt Tryz.prog 105 eqCond.code [0, 1, 2, 3, 4] [.tmp 4] Tryz.f105.ntmps := ir_ Tryz.func105
abbrev eqCond.Ret (args : List AV) (r : AV) (frs : Fr) : Prop := Abs.Ret true Tryz.prog 105 args r frs
def eqCondS.code : ACode := (q_ (r_ [s 4 (.mv (.const (.bool false)))]) (q_ (.seq (r_ [v_ 6 0, s 7 (.len false (t 6)), v_ 8 1, s 9 (.len false (t 8)), s 10 (.bin .neq (t 7) (t 9))]) (.cond (t 10) (q_ (r_ [s 4 (.mv (.const (.bool false)))]) .ret) .skip)) (q_ (.seq (r_ [s 5 (.mv (i_ 0))]) (.block 0 (.loop (q_ (.seq (r_ [v_ 11 5, v_ 12 0, s 13 (.len false (t 12)), s 14 (.bin .lss (t 11) (t 13))]) (.cond (t 14) .skip (.exit 0))) (q_ (.block 1 (q_ (.region true [v_ 17 0, v_ 18 5, s 19 (.iadr 5 (t 17) (t 18)), s 20 (a_ 5 19), v_ 21 1, v_ 22 5, s 23 (.iadr 5 (t 21) (t 22)), s 24 (a_ 5 23), s 25 (.call 105 [(t 20), (t 24)]), s 26 (.not (t 25))]) (.cond (t 26) (q_ (r_ [s 4 (.mv (.const (.bool false)))]) .ret) .skip))) (r_ [v_ 15 5, s 16 (.bin .add (t 15) (i_ 1)), v_ 5 16])))))) (q_ (r_ [s 4 (.mv (.const (.bool true)))]) .ret))))
theorem eqCondS.ir : IrAt Tryz.prog 59 eqCondS.code [0, 1, 4, 5] [.tmp 4] Tryz.f59.ntmps := ir_ Tryz.func59
abbrev eqCondS.Ret (args : List AV) (r : AV) (frs : Fr) : Prop := Abs.Ret true Tryz.prog 59 args r frs
def eqFact.code : ACode := (q_ (r_ [s 2 (.box (t 0)), s 3 (.box (t 1)), s 4 (.mv (.const (.bool false)))]) (q_ (.seq (r_ [s 5 (f_ 0 2), s 6 (l_ 5), s 7 (f_ 0 3), s 8 (l_ 7), s 9 (.bin .neq (t 6) (t 8))]) (.cond (t 9) (q_ (r_ [s 4 (.mv (.const (.bool false)))]) .ret) .skip)) (q_ (.seq (r_ [s 10 (f_ 1 2), s 11 (l_ 10), s 12 (f_ 1 3), s 13 (l_ 12), s 14 (.call 107 [(t 11), (t 13)]), s 15 (.not (t 14))]) (.cond (t 15) (q_ (r_ [s 4 (.mv (.const (.bool false)))]) .ret) .skip)) (q_ (r_ [s 4 (.mv (.const (.bool true)))]) .ret))))
theorem eqFact.ir : IrAt Tryz.prog 61 eqFact.code [0, 1, 2, 3, 4] [.tmp 4] Tryz.f61.ntmps := ir_ Tryz.func61
abbrev eqFact.Ret (args : List AV) (r : AV) (frs : Fr) : Prop := Abs.Ret true Tryz.prog 61 args r frs
def eqFactS.code : ACode := (q_ (r_ [s 4 (.mv (.const (.bool false)))]) (q_ (.seq (r_ [v_ 6 0, s 7 (.len false (t 6)), v_ 8 1, s 9 (.len false (t 8)), s 10 (.bin .neq (t 7) (t 9))]) (.cond (t 10) (q_ (r_ [s 4 (.mv (.const (.bool false)))]) .ret) .skip)) (q_ (.seq (r_ [s 5 (.mv (i_ 0))]) (.block 0 (.loop (q_ (.seq (r_ [v_ 11 5, v_ 12 0, s 13 (.len false (t 12)), s 14 (.bin .lss (t 11) (t 13))]) (.cond (t 14) .skip (.exit 0))) (q_ (.block 1 (q_ (.region true [v_ 17 0, v_ 18 5, s 19 (.iadr 2 (t 17) (t 18)), s 20 (a_ 2 19), v_ 21 1, v_ 22 5, s 23 (.iadr 2 (t 21) (t 22)), s 24 (a_ 2 23), s 25 (.call 61 [(t 20), (t 24)]), s 26 (.not (t 25))]) (.cond (t 26) (q_ (r_ [s 4 (.mv (.const (.bool false)))]) .ret) .skip))) (r_ [v_ 15 5, s 16 (.bin .add (t 15) (i_ 1)), v_ 5 16])))))) (q_ (r_ [s 4 (.mv (.const (.bool true)))]) .ret))))
theorem eqFactS.ir : IrAt Tryz.prog 17 eqFactS.code [0, 1, 4, 5] [.tmp 4] Tryz.f17.ntmps := ir_ Tryz.func17
abbrev eqFactS.Ret (args : List AV) (r : AV) (frs : Fr) : Prop := Abs.Ret true Tryz.prog 17 args r frs
def eqMatch.code : ACode := (q_ (r_ [s 2 (.box (t 0)), s 3 (.box (t 1)), s 4 (.mv (.const (.bool false)))]) (q_ (.seq (r_ [s 5 (f_ 0 2), s 6 (l_ 5), s 7 (f_ 0 3), s 8 (l_ 7), s 9 (.bin .neq (t 6) (t 8))]) (.cond (t 9) (q_ (r_ [s 4 (.mv (.const (.bool false)))]) .ret) .skip)) (q_ (.seq (r_ [s 10 (f_ 1 2), s 11 (l_ 10), s 12 (f_ 1 3), s 13 (l_ 12), s 14 (.call 17 [(t 11), (t 13)]), s 15 (.not (t 14))]) (.cond (t 15) (q_ (r_ [s 4 (.mv (.const (.bool false)))]) .ret) .skip)) (q_ (.seq (r_ [s 16 (f_ 2 2), s 17 (l_ 16), s 18 (f_ 2 3), s 19 (l_ 18), s 20 (.call 77 [(t 17), (t 19)]), s 21 (.not (t 20))]) (.cond (t 21) (q_ (r_ [s 4 (.mv (.const (.bool false)))]) .ret) .skip)) (q_ (r_ [s 4 (.mv (.const (.bool true)))]) .ret)))))
theorem eqMatch.ir : IrAt Tryz.prog 37 eqMatch.code [0, 1, 2, 3, 4] [.tmp 4] Tryz.f37.ntmps := ir_ Tryz.func37
abbrev eqMatch.Ret (args : List AV) (r : AV) (frs : Fr) : Prop := Abs.Ret true Tryz.prog 37 args r frs
def eqPair.code : ACode := (q_ (r_ [s 2 (.box (t 0)), s 3 (.box (t 1)), s 4 (.mv (.const (.bool false)))]) (q_ (.seq (r_ [s 5 (f_ 0 2), s 6 (l_ 5), s 7 (f_ 0 3), s 8 (l_ 7), s 9 (.bin .neq (t 6) (t 8))]) (.cond (t 9) (q_ (r_ [s 4 (.mv (.const (.bool false)))]) .ret) .skip)) (q_ (.seq (r_ [s 10 (f_ 1 2), s 11 (l_ 10), s 12 (f_ 1 3), s 13 (l_ 12), s 14 (.bin .neq (t 11) (t 13))]) (.cond (t 14) (q_ (r_ [s 4 (.mv (.const (.bool false)))]) .ret) .skip)) (q_ (r_ [s 4 (.mv (.const (.bool true)))]) .ret))))
theorem eqPair.ir : IrAt Tryz.prog 118 eqPair.code [0, 1, 2, 3, 4] [.tmp 4] Tryz.f118.ntmps := ir_ Tryz.func118
abbrev eqPair.Ret (args : List AV) (r : AV) (frs : Fr) : Prop := Abs.Ret true Tryz.prog 118 args r frs
def eqPairS.code : ACode := (q_ (r_ [s 4 (.mv (.const (.bool false)))]) (q_ (.seq (r_ [v_ 6 0, s 7 (.len false (t 6)), v_ 8 1, s 9 (.len false (t 8)), s 10 (.bin .neq (t 7) (t 9))]) (.cond (t 10) (q_ (r_ [s 4 (.mv (.const (.bool false)))]) .ret) .skip)) (q_ (.seq (r_ [s 5 (.mv (i_ 0))]) (.block 0 (.loop (q_ (.seq (r_ [v_ 11 5, v_ 12 0, s 13 (.len false (t 12)), s 14 (.bin .lss (t 11) (t 13))]) (.cond (t 14) .skip (.exit 0))) (q_ (.block 1 (q_ (.region true [v_ 17 0, v_ 18 5, s 19 (.iadr 2 (t 17) (t 18)), s 20 (a_ 2 19), v_ 21 1, v_ 22 5, s 23 (.iadr 2 (t 21) (t 22)), s 24 (a_ 2 23), s 25 (.call 118 [(t 20), (t 24)]), s 26 (.not (t 25))]) (.cond (t 26) (q_ (r_ [s 4 (.mv (.const (.bool false)))]) .ret) .skip))) (r_ [v_ 15 5, s 16 (.bin .add (t 15) (i_ 1)), v_ 5 16])))))) (q_ (r_ [s 4 (.mv (.const (.bool true)))]) .ret))))
theorem eqPairS.ir : IrAt Tryz.prog 77 eqPairS.code [0, 1, 4, 5] [.tmp 4] Tryz.f77.ntmps := ir_ Tryz.func77
abbrev eqPairS.Ret (args : List AV) (r : AV) (frs : Fr) : Prop := Abs.Ret true Tryz.prog 77 args r frs
def eqPattern.code : ACode := (q_ (r_ [s 2 (.box (t 0)), s 3 (.box (t 1)), s 4 (.mv (.const (.bool false)))]) (q_ (.seq (r_ [s 5 (f_ 0 2), s 6 (l_ 5), s 7 (f_ 0 3), s 8 (l_ 7), s 9 (.bin .neq (t 6) (t 8))]) (.cond (t 9) (q_ (r_ [s 4 (.mv (.const (.bool false)))]) .ret) .skip)) (q_ (.seq (r_ [s 10 (f_ 1 2), s 11 (l_ 10), s 12 (f_ 1 3), s 13 (l_ 12), s 14 (.call 107 [(t 11), (t 13)]), s 15 (.not (t 14))]) (.cond (t 15) (q_ (r_ [s 4 (.mv (.const (.bool false)))]) .ret) .skip)) (q_ (r_ [s 4 (.mv (.const (.bool true)))]) .ret))))
theorem eqPattern.ir : IrAt Tryz.prog 154 eqPattern.code [0, 1, 2, 3, 4] [.tmp 4] Tryz.f154.ntmps := ir_ Tryz.func154
abbrev eqPattern.Ret (args : List AV) (r : AV) (frs : Fr) : Prop := Abs.Ret true Tryz.prog 154 args r frs
def eqRule.code : ACode := (q_ (r_ [s 2 (.box (t 0)), s 3 (.box (t 1)), s 4 (.mv (.const (.bool false)))]) (q_ (.seq (r_ [s 5 (f_ 0 2), s 6 (l_ 5), s 7 (f_ 0 3), s 8 (l_ 7), s 9 (.bin .neq (t 6) (t 8))]) (.cond (t 9) (q_ (r_ [s 4 (.mv (.const (.bool false)))]) .ret) .skip)) (q_ (.seq (r_ [s 10 (f_ 1 2), s 11 (l_ 10), s 12 (f_ 1 3), s 13 (l_ 12), s 14 (.bin .neq (t 11) (t 13))]) (.cond (t 14) (q_ (r_ [s 4 (.mv (.const (.bool false)))]) .ret) .skip)) (q_ (.seq (r_ [s 15 (f_ 2 2), s 16 (l_ 15), s 17 (f_ 2 3), s 18 (l_ 17), s 19 (.call 59 [(t 16), (t 18)]), s 20 (.not (t 19))]) (.cond (t 20) (q_ (r_ [s 4 (.mv (.const (.bool false)))]) .ret) .skip)) (q_ (.seq (r_ [s 21 (f_ 3 2), s 22 (l_ 21), s 23 (f_ 3 3), s 24 (l_ 23), s 25 (.call 60 [(t 22), (t 24)]), s 26 (.not (t 25))]) (.cond (t 26) (q_ (r_ [s 4 (.mv (.const (.bool false)))]) .ret) .skip)) (q_ (r_ [s 4 (.mv (.const (.bool true)))]) .ret))))))
theorem eqRule.ir : IrAt Tryz.prog 16 eqRule.code [0, 1, 2, 3, 4] [.tmp 4] Tryz.f16.ntmps := ir_ Tryz.func16
abbrev eqRule.Ret (args : List AV) (r : AV) (frs : Fr) : Prop := Abs.Ret true Tryz.prog 16 args r frs
def eqStringS.code : ACode := (q_ (r_ [s 4 (.mv (.const (.bool false)))]) (q_ (.seq (r_ [v_ 6 0, s 7 (.len false (t 6)), v_ 8 1, s 9 (.len false (t 8)), s 10 (.bin .neq (t 7) (t 9))]) (.cond (t 10) (q_ (r_ [s 4 (.mv (.const (.bool false)))]) .ret) .skip)) (q_ (.seq (r_ [s 5 (.mv (i_ 0))]) (.block 0 (.loop (q_ (.seq (r_ [v_ 11 5, v_ 12 0, s 13 (.len false (t 12)), s 14 (.bin .lss (t 11) (t 13))]) (.cond (t 14) .skip (.exit 0))) (q_ (.block 1 (q_ (.region true [v_ 17 0, v_ 18 5, s 19 (.iadr 1 (t 17) (t 18)), s 20 (l_ 19), v_ 21 1, v_ 22 5, s 23 (.iadr 1 (t 21) (t 22)), s 24 (l_ 23), s 25 (.bin .neq (t 20) (t 24))]) (.cond (t 25) (q_ (r_ [s 4 (.mv (.const (.bool false)))]) .ret) .skip))) (r_ [v_ 15 5, s 16 (.bin .add (t 15) (i_ 1)), v_ 5 16])))))) (q_ (r_ [s 4 (.mv (.const (.bool true)))]) .ret))))
theorem eqStringS.ir : IrAt Tryz.prog 107 eqStringS.code [0, 1, 4, 5] [.tmp 4] Tryz.f107.ntmps := ir_ Tryz.func107
abbrev eqStringS.Ret (args : List AV) (r : AV) (frs : Fr) : Prop := Abs.Ret true Tryz.prog 107 args r frs
def szAction.code : ACode := (q_ (r_ [s 2 (.box (t 0)), s 4 (.mv (i_ 0))]) (q_ (r_ [s 5 (f_ 1 2), s 6 (a_ 2 5), v_ 7 1, s 8 (.call 119 [(t 6), (t 7)]), v_ 1 8]) (q_ (.seq (r_ [v_ 9 1, s 10 (.bin .lss (t 9) (i_ 0))]) (.cond (t 10) (q_ (r_ [s 4 (.mv (.const (.int .i64 (-1))))]) .ret) .skip)) (q_ (r_ [v_ 11 1, v_ 4 11]) .ret))))
theorem szAction.ir : IrAt Tryz.prog 79 szAction.code [0, 1, 2, 4] [.tmp 4] Tryz.f79.ntmps := ir_ Tryz.func79
abbrev szAction.Ret (args : List AV) (r : AV) (frs : Fr) : Prop := Abs.Ret true Tryz.prog 79 args r frs
def szActionS.code : ACode := (q_ (r_ [s 4 (.mv (i_ 0))]) (q_ (r_ [v_ 6 1, v_ 7 0, s 8 (.len false (t 7)), s 9 (.bin .sub (t 6) (t 8)), v_ 1 9]) (q_ (.seq (r_ [v_ 10 1, s 11 (.bin .lss (t 10) (i_ 0))]) (.cond (t 11) (q_ (r_ [s 4 (.mv (.const (.int .i64 (-1))))]) .ret) .skip)) (q_ (.seq (r_ [s 5 (.mv (i_ 0))]) (.block 0 (.loop (q_ (.seq (r_ [v_ 12 5, v_ 13 0, s 14 (.len false (t 13)), s 15 (.bin .lss (t 12) (t 14))]) (.cond (t 15) .skip (.exit 0))) (q_ (.block 1 (q_ (r_ [v_ 18 0, v_ 19 5, s 20 (.iadr 3 (t 18) (t 19)), s 21 (a_ 3 20), v_ 22 1, s 23 (.call 79 [(t 21), (t 22)]), v_ 1 23]) (q_ (r_ [v_ 24 1, s 25 (.bin .lss (t 24) (i_ 0))]) (.cond (t 25) (q_ (r_ [s 4 (.mv (.const (.int .i64 (-1))))]) .ret) .skip)))) (r_ [v_ 16 5, s 17 (.bin .add (t 16) (i_ 1)), v_ 5 17])))))) (q_ (r_ [v_ 26 1, v_ 4 26]) .ret)))))
theorem szActionS.ir : IrAt Tryz.prog 46 szActionS.code [0, 1, 4, 5] [.tmp 4] Tryz.f46.ntmps := ir_ Tryz.func46
abbrev szActionS.Ret (args : List AV) (r : AV) (frs : Fr) : Prop := Abs.Ret true Tryz.prog 46 args r frs
def szCond.code : ACode := (q_ (r_ [s 2 (.box (t 0)), s 4 (.mv (i_ 0))]) (q_ (r_ [s 5 (f_ 1 2), s 6 (a_ 2 5), v_ 7 1, s 8 (.call 119 [(t 6), (t 7)]), v_ 1 8]) (q_ (.seq (r_ [v_ 9 1, s 10 (.bin .lss (t 9) (i_ 0))]) (.cond (t 10) (q_ (r_ [s 4 (.mv (.const (.int .i64 (-1))))]) .ret) .skip)) (q_ (r_ [v_ 11 1, s 12 (f_ 3 2), s 13 (l_ 12), s 14 (.len true (t 13)), s 15 (.bin .sub (t 11) (t 14)), v_ 1 15]) (q_ (.seq (r_ [v_ 16 1, s 17 (.bin .lss (t 16) (i_ 0))]) (.cond (t 17) (q_ (r_ [s 4 (.mv (.const (.int .i64 (-1))))]) .ret) .skip)) (q_ (r_ [v_ 18 1, s 19 (f_ 4 2), s 20 (l_ 19), s 21 (.len true (t 20)), s 22 (.bin .sub (t 18) (t 21)), v_ 1 22]) (q_ (.seq (r_ [v_ 23 1, s 24 (.bin .lss (t 23) (i_ 0))]) (.cond (t 24) (q_ (r_ [s 4 (.mv (.const (.int .i64 (-1))))]) .ret) .skip)) (q_ (r_ [v_ 25 1, v_ 4 25]) .ret))))))))
theorem szCond.ir : IrAt Tryz.prog 78 szCond.code [0, 1, 2, 4] [.tmp 4] Tryz.f78.ntmps := ir_ Tryz.func78
abbrev szCond.Ret (args : List AV) (r : AV) (frs : Fr) : Prop := Abs.Ret true Tryz.prog 78 args r frs
def szCondS.code : ACode := (q_ (r_ [s 4 (.mv (i_ 0))]) (q_ (r_ [v_ 6 1, v_ 7 0, s 8 (.len false (t 7)), s 9 (.bin .sub (t 6) (t 8)), v_ 1 9]) (q_ (.seq (r_ [v_ 10 1, s 11 (.bin .lss (t 10) (i_ 0))]) (.cond (t 11) (q_ (r_ [s 4 (.mv (.const (.int .i64 (-1))))]) .ret) .skip)) (q_ (.seq (r_ [s 5 (.mv (i_ 0))]) (.block 0 (.loop (q_ (.seq (r_ [v_ 12 5, v_ 13 0, s 14 (.len false (t 13)), s 15 (.bin .lss (t 12) (t 14))]) (.cond (t 15) .skip (.exit 0))) (q_ (.block 1 (q_ (r_ [v_ 18 0, v_ 19 5, s 20 (.iadr 5 (t 18) (t 19)), s 21 (a_ 5 20), v_ 22 1, s 23 (.call 78 [(t 21), (t 22)]), v_ 1 23]) (q_ (r_ [v_ 24 1, s 25 (.bin .lss (t 24) (i_ 0))]) (.cond (t 25) (q_ (r_ [s 4 (.mv (.const (.int .i64 (-1))))]) .ret) .skip)))) (r_ [v_ 16 5, s 17 (.bin .add (t 16) (i_ 1)), v_ 5 17])))))) (q_ (r_ [v_ 26 1, v_ 4 26]) .ret)))))
theorem szCondS.ir : IrAt Tryz.prog 45 szCondS.code [0, 1, 4, 5] [.tmp 4] Tryz.f45.ntmps := ir_ Tryz.func45
abbrev szCondS.Ret (args : List AV) (r : AV) (frs : Fr) : Prop := Abs.Ret true Tryz.prog 45 args r frs
def szFact.code : ACode := (q_ (r_ [s 2 (.box (t 0)), s 4 (.mv (i_ 0))]) (q_ (r_ [v_ 5 1, s 6 (f_ 0 2), s 7 (l_ 6), s 8 (.len true (t 7)), s 9 (.bin .sub (t 5) (t 8)), v_ 1 9]) (q_ (.seq (r_ [v_ 10 1, s 11 (.bin .lss (t 10) (i_ 0))]) (.cond (t 11) (q_ (r_ [s 4 (.mv (.const (.int .i64 (-1))))]) .ret) .skip)) (q_ (r_ [s 12 (f_ 1 2), s 13 (l_ 12), v_ 14 1, s 15 (.call 80 [(t 13), (t 14)]), v_ 1 15]) (q_ (.seq (r_ [v_ 16 1, s 17 (.bin .lss (t 16) (i_ 0))]) (.cond (t 17) (q_ (r_ [s 4 (.mv (.const (.int .i64 (-1))))]) .ret) .skip)) (q_ (r_ [v_ 18 1, v_ 4 18]) .ret))))))
theorem szFact.ir : IrAt Tryz.prog 47 szFact.code [0, 1, 2, 4] [.tmp 4] Tryz.f47.ntmps := ir_ Tryz.func47
abbrev szFact.Ret (args : List AV) (r : AV) (frs : Fr) : Prop := Abs.Ret true Tryz.prog 47 args r frs
def szFactS.code : ACode := (q_ (r_ [s 4 (.mv (i_ 0))]) (q_ (r_ [v_ 6 1, v_ 7 0, s 8 (.len false (t 7)), s 9 (.bin .sub (t 6) (t 8)), v_ 1 9]) (q_ (.seq (r_ [v_ 10 1, s 11 (.bin .lss (t 10) (i_ 0))]) (.cond (t 11) (q_ (r_ [s 4 (.mv (.const (.int .i64 (-1))))]) .ret) .skip)) (q_ (.seq (r_ [s 5 (.mv (i_ 0))]) (.block 0 (.loop (q_ (.seq (r_ [v_ 12 5, v_ 13 0, s 14 (.len false (t 13)), s 15 (.bin .lss (t 12) (t 14))]) (.cond (t 15) .skip (.exit 0))) (q_ (.block 1 (q_ (r_ [v_ 18 0, v_ 19 5, s 20 (.iadr 2 (t 18) (t 19)), s 21 (a_ 2 20), v_ 22 1, s 23 (.call 47 [(t 21), (t 22)]), v_ 1 23]) (q_ (r_ [v_ 24 1, s 25 (.bin .lss (t 24) (i_ 0))]) (.cond (t 25) (q_ (r_ [s 4 (.mv (.const (.int .i64 (-1))))]) .ret) .skip)))) (r_ [v_ 16 5, s 17 (.bin .add (t 16) (i_ 1)), v_ 5 17])))))) (q_ (r_ [v_ 26 1, v_ 4 26]) .ret)))))
theorem szFactS.ir : IrAt Tryz.prog 10 szFactS.code [0, 1, 4, 5] [.tmp 4] Tryz.f10.ntmps := ir_ Tryz.func10
abbrev szFactS.Ret (args : List AV) (r : AV) (frs : Fr) : Prop := Abs.Ret true Tryz.prog 10 args r frs
def szMatch.code : ACode := (q_ (r_ [s 2 (.box (t 0)), s 4 (.mv (i_ 0))]) (q_ (r_ [v_ 5 1, s 6 (f_ 0 2), s 7 (l_ 6), s 8 (.len true (t 7)), s 9 (.bin .sub (t 5) (t 8)), v_ 1 9]) (q_ (.seq (r_ [v_ 10 1, s 11 (.bin .lss (t 10) (i_ 0))]) (.cond (t 11) (q_ (r_ [s 4 (.mv (.const (.int .i64 (-1))))]) .ret) .skip)) (q_ (r_ [s 12 (f_ 1 2), s 13 (l_ 12), v_ 14 1, s 15 (.call 10 [(t 13), (t 14)]), v_ 1 15]) (q_ (.seq (r_ [v_ 16 1, s 17 (.bin .lss (t 16) (i_ 0))]) (.cond (t 17) (q_ (r_ [s 4 (.mv (.const (.int .i64 (-1))))]) .ret) .skip)) (q_ (r_ [s 18 (f_ 2 2), s 19 (l_ 18), v_ 20 1, s 21 (.call 71 [(t 19), (t 20)]), v_ 1 21]) (q_ (.seq (r_ [v_ 22 1, s 23 (.bin .lss (t 22) (i_ 0))]) (.cond (t 23) (q_ (r_ [s 4 (.mv (.const (.int .i64 (-1))))]) .ret) .skip)) (q_ (r_ [v_ 24 1, v_ 4 24]) .ret))))))))
theorem szMatch.ir : IrAt Tryz.prog 33 szMatch.code [0, 1, 2, 4] [.tmp 4] Tryz.f33.ntmps := ir_ Tryz.func33
abbrev szMatch.Ret (args : List AV) (r : AV) (frs : Fr) : Prop := Abs.Ret true Tryz.prog 33 args r frs
def szPair.code : ACode := (q_ (r_ [s 2 (.box (t 0)), s 4 (.mv (i_ 0))]) (q_ (r_ [v_ 5 1, s 6 (f_ 0 2), s 7 (l_ 6), s 8 (.len true (t 7)), s 9 (.bin .sub (t 5) (t 8)), v_ 1 9]) (q_ (.seq (r_ [v_ 10 1, s 11 (.bin .lss (t 10) (i_ 0))]) (.cond (t 11) (q_ (r_ [s 4 (.mv (.const (.int .i64 (-1))))]) .ret) .skip)) (q_ (r_ [v_ 12 1, s 13 (f_ 1 2), s 14 (l_ 13), s 15 (.len true (t 14)), s 16 (.bin .sub (t 12) (t 15)), v_ 1 16]) (q_ (.seq (r_ [v_ 17 1, s 18 (.bin .lss (t 17) (i_ 0))]) (.cond (t 18) (q_ (r_ [s 4 (.mv (.const (.int .i64 (-1))))]) .ret) .skip)) (q_ (r_ [v_ 19 1, v_ 4 19]) .ret))))))
theorem szPair.ir : IrAt Tryz.prog 111 szPair.code [0, 1, 2, 4] [.tmp 4] Tryz.f111.ntmps := ir_ Tryz.func111
abbrev szPair.Ret (args : List AV) (r : AV) (frs : Fr) : Prop := Abs.Ret true Tryz.prog 111 args r frs
def szPairS.code : ACode := (q_ (r_ [s 4 (.mv (i_ 0))]) (q_ (r_ [v_ 6 1, v_ 7 0, s 8 (.len false (t 7)), s 9 (.bin .sub (t 6) (t 8)), v_ 1 9]) (q_ (.seq (r_ [v_ 10 1, s 11 (.bin .lss (t 10) (i_ 0))]) (.cond (t 11) (q_ (r_ [s 4 (.mv (.const (.int .i64 (-1))))]) .ret) .skip)) (q_ (.seq (r_ [s 5 (.mv (i_ 0))]) (.block 0 (.loop (q_ (.seq (r_ [v_ 12 5, v_ 13 0, s 14 (.len false (t 13)), s 15 (.bin .lss (t 12) (t 14))]) (.cond (t 15) .skip (.exit 0))) (q_ (.block 1 (q_ (r_ [v_ 18 0, v_ 19 5, s 20 (.iadr 2 (t 18) (t 19)), s 21 (a_ 2 20), v_ 22 1, s 23 (.call 111 [(t 21), (t 22)]), v_ 1 23]) (q_ (r_ [v_ 24 1, s 25 (.bin .lss (t 24) (i_ 0))]) (.cond (t 25) (q_ (r_ [s 4 (.mv (.const (.int .i64 (-1))))]) .ret) .skip)))) (r_ [v_ 16 5, s 17 (.bin .add (t 16) (i_ 1)), v_ 5 17])))))) (q_ (r_ [v_ 26 1, v_ 4 26]) .ret)))))
theorem szPairS.ir : IrAt Tryz.prog 71 szPairS.code [0, 1, 4, 5] [.tmp 4] Tryz.f71.ntmps := ir_ Tryz.func71
abbrev szPairS.Ret (args : List AV) (r : AV) (frs : Fr) : Prop := Abs.Ret true Tryz.prog 71 args r frs
def szPattern.code : ACode := (q_ (r_ [s 2 (.box (t 0)), s 4 (.mv (i_ 0))]) (q_ (r_ [v_ 5 1, s 6 (f_ 0 2), s 7 (l_ 6), s 8 (.len true (t 7)), s 9 (.bin .sub (t 5) (t 8)), v_ 1 9]) (q_ (.seq (r_ [v_ 10 1, s 11 (.bin .lss (t 10) (i_ 0))]) (.cond (t 11) (q_ (r_ [s 4 (.mv (.const (.int .i64 (-1))))]) .ret) .skip)) (q_ (r_ [s 12 (f_ 1 2), s 13 (l_ 12), v_ 14 1, s 15 (.call 80 [(t 13), (t 14)]), v_ 1 15]) (q_ (.seq (r_ [v_ 16 1, s 17 (.bin .lss (t 16) (i_ 0))]) (.cond (t 17) (q_ (r_ [s 4 (.mv (.const (.int .i64 (-1))))]) .ret) .skip)) (q_ (r_ [v_ 18 1, v_ 4 18]) .ret))))))
theorem szPattern.ir : IrAt Tryz.prog 119 szPattern.code [0, 1, 2, 4] [.tmp 4] Tryz.f119.ntmps := ir_ Tryz.func119
abbrev szPattern.Ret (args : List AV) (r : AV) (frs : Fr) : Prop := Abs.Ret true Tryz.prog 119 args r frs
def szRule.code : ACode := (q_ (r_ [s 2 (.box (t 0)), s 4 (.mv (i_ 0))]) (q_ (r_ [v_ 5 1, s 6 (f_ 0 2), s 7 (l_ 6), s 8 (.len true (t 7)), s 9 (.bin .sub (t 5) (t 8)), v_ 1 9]) (q_ (.seq (r_ [v_ 10 1, s 11 (.bin .lss (t 10) (i_ 0))]) (.cond (t 11) (q_ (r_ [s 4 (.mv (.const (.int .i64 (-1))))]) .ret) .skip)) (q_ (r_ [s 12 (f_ 2 2), s 13 (l_ 12), v_ 14 1, s 15 (.call 45 [(t 13), (t 14)]), v_ 1 15]) (q_ (.seq (r_ [v_ 16 1, s 17 (.bin .lss (t 16) (i_ 0))]) (.cond (t 17) (q_ (r_ [s 4 (.mv (.const (.int .i64 (-1))))]) .ret) .skip)) (q_ (r_ [s 18 (f_ 3 2), s 19 (l_ 18), v_ 20 1, s 21 (.call 46 [(t 19), (t 20)]), v_ 1 21]) (q_ (.seq (r_ [v_ 22 1, s 23 (.bin .lss (t 22) (i_ 0))]) (.cond (t 23) (q_ (r_ [s 4 (.mv (.const (.int .i64 (-1))))]) .ret) .skip)) (q_ (r_ [v_ 24 1, v_ 4 24]) .ret))))))))
theorem szRule.ir : IrAt Tryz.prog 9 szRule.code [0, 1, 2, 4] [.tmp 4] Tryz.f9.ntmps := ir_ Tryz.func9
abbrev szRule.Ret (args : List AV) (r : AV) (frs : Fr) : Prop := Abs.Ret true Tryz.prog 9 args r frs
def szStringS.code : ACode := (q_ (r_ [s 4 (.mv (i_ 0))]) (q_ (r_ [v_ 6 1, v_ 7 0, s 8 (.len false (t 7)), s 9 (.bin .sub (t 6) (t 8)), v_ 1 9]) (q_ (.seq (r_ [v_ 10 1, s 11 (.bin .lss (t 10) (i_ 0))]) (.cond (t 11) (q_ (r_ [s 4 (.mv (.const (.int .i64 (-1))))]) .ret) .skip)) (q_ (.seq (r_ [s 5 (.mv (i_ 0))]) (.block 0 (.loop (q_ (.seq (r_ [v_ 12 5, v_ 13 0, s 14 (.len false (t 13)), s 15 (.bin .lss (t 12) (t 14))]) (.cond (t 15) .skip (.exit 0))) (q_ (.block 1 (q_ (r_ [v_ 18 1, v_ 19 0, v_ 20 5, s 21 (.iadr 1 (t 19) (t 20)), s 22 (l_ 21), s 23 (.len true (t 22)), s 24 (.bin .sub (t 18) (t 23)), v_ 1 24]) (q_ (r_ [v_ 25 1, s 26 (.bin .lss (t 25) (i_ 0))]) (.cond (t 26) (q_ (r_ [s 4 (.mv (.const (.int .i64 (-1))))]) .ret) .skip)))) (r_ [v_ 16 5, s 17 (.bin .add (t 16) (i_ 1)), v_ 5 17])))))) (q_ (r_ [v_ 27 1, v_ 4 27]) .ret)))))
theorem szStringS.ir : IrAt Tryz.prog 80 szStringS.code [0, 1, 4, 5] [.tmp 4] Tryz.f80.ntmps := ir_ Tryz.func80
abbrev szStringS.Ret (args : List AV) (r : AV) (frs : Fr) : Prop := Abs.Ret true Tryz.prog 80 args r frs
def toAction.code : ACode := (q_ (r_ [s 1 (.box (t 0)), s 2 (.alloc [(.int .i64 (.ofNat 0)), (.string (.mk (.mk []))), (.slice none 0 0)])]) (q_ (r_ [s 3 (.alloc [(.int .i64 (.ofNat 0)), (.string (.mk (.mk []))), (.slice none 0 0)])]) (q_ (r_ [s 4 (f_ 0 1), s 5 (l_ 4), s 6 (f_ 0 3), ⟨none, none, (.store 1 (t 6) (t 5))⟩]) (q_ (r_ [s 7 (f_ 1 1), s 8 (a_ 2 7), s 9 (.call 132 [(t 8)]), s 10 (f_ 1 3), ⟨none, none, (.store 2 (t 10) (t 9))⟩]) (q_ (r_ [s 11 (a_ 3 3), ⟨none, none, (.store 3 (t 2) (t 11))⟩]) .ret)))))
theorem toAction.ir : IrAt Tryz.prog 95 toAction.code [0, 1, 2, 3] [.cell 2 true 3] Tryz.f95.ntmps := ir_ Tryz.func95
abbrev toAction.Ret (args : List AV) (r : AV) (frs : Fr) : Prop := Abs.Ret true Tryz.prog 95 args r frs
def toActionS.code : ACode := (q_ (r_ [s 2 (.mv (.const (.slice none 0 0)))]) (q_ (r_ [v_ 5 0, s 6 (.len false (t 5)), s 7 (.make 123 [(.int .i64 (.ofNat 0)), (.string (.mk (.mk []))), (.slice none 0 0)] 3 48 (t 6)), v_ 3 7]) (q_ (.seq (r_ [s 4 (.mv (i_ 0))]) (.block 0 (.loop (q_ (.seq (r_ [v_ 8 4, v_ 9 0, s 10 (.len false (t 9)), s 11 (.bin .lss (t 8) (t 10))]) (.cond (t 11) .skip (.exit 0))) (q_ (.block 1 (r_ [v_ 14 3, v_ 15 4, v_ 16 0, v_ 17 4, s 18 (.iadr 3 (t 16) (t 17)), s 19 (a_ 3 18), s 20 (.call 95 [(t 19)]), s 21 (.iadr 3 (t 14) (t 15)), ⟨none, none, (.store 3 (t 21) (t 20))⟩])) (r_ [v_ 12 4, s 13 (.bin .add (t 12) (i_ 1)), v_ 4 13])))))) (q_ (r_ [v_ 22 3, v_ 2 22]) .ret))))
theorem toActionS.ir : IrAt Tryz.prog 53 toActionS.code [0, 2, 3, 4] [.tmp 2] Tryz.f53.ntmps := ir_ Tryz.func53
abbrev toActionS.Ret (args : List AV) (r : AV) (frs : Fr) : Prop := Abs.Ret true Tryz.prog 53 args r frs
def toCond.code : ACode := (q_ (r_ [s 1 (.box (t 0)), s 2 (.alloc [(.int .i64 (.ofNat 0)), (.string (.mk (.mk []))), (.slice none 0 0), (.string (.mk (.mk []))), (.string (.mk (.mk [])))])]) (q_ (r_ [s 3 (.alloc [(.int .i64 (.ofNat 0)), (.string (.mk (.mk []))), (.slice none 0 0), (.string (.mk (.mk []))), (.string (.mk (.mk [])))])]) (q_ (r_ [s 4 (f_ 0 1), s 5 (l_ 4), s 6 (f_ 0 3), ⟨none, none, (.store 1 (t 6) (t 5))⟩]) (q_ (r_ [s 7 (f_ 1 1), s 8 (a_ 2 7), s 9 (.call 132 [(t 8)]), s 10 (f_ 1 3), ⟨none, none, (.store 2 (t 10) (t 9))⟩]) (q_ (r_ [s 11 (f_ 3 1), s 12 (l_ 11), s 13 (f_ 3 3), ⟨none, none, (.store 1 (t 13) (t 12))⟩]) (q_ (r_ [s 14 (f_ 4 1), s 15 (l_ 14), s 16 (f_ 4 3), ⟨none, none, (.store 1 (t 16) (t 15))⟩]) (q_ (r_ [s 17 (a_ 5 3), ⟨none, none, (.store 5 (t 2) (t 17))⟩]) .ret)))))))
theorem toCond.ir : IrAt Tryz.prog 94 toCond.code [0, 1, 2, 3] [.cell 2 true 5] Tryz.f94.ntmps := ir_ Tryz.func94
abbrev toCond.Ret (args : List AV) (r : AV) (frs : Fr) : Prop := Abs.Ret true Tryz.prog 94 args r frs
def toCondS.code : ACode := (q_ (r_ [s 2 (.mv (.const (.slice none 0 0)))]) (q_ (r_ [v_ 5 0, s 6 (.len false (t 5)), s 7 (.make 116 [(.int .i64 (.ofNat 0)), (.string (.mk (.mk []))), (.slice none 0 0), (.string (.mk (.mk []))), (.string (.mk (.mk [])))] 5 80 (t 6)), v_ 3 7]) (q_ (.seq (r_ [s 4 (.mv (i_ 0))]) (.block 0 (.loop (q_ (.seq (r_ [v_ 8 4, v_ 9 0, s 10 (.len false (t 9)), s 11 (.bin .lss (t 8) (t 10))]) (.cond (t 11) .skip (.exit 0))) (q_ (.block 1 (r_ [v_ 14 3, v_ 15 4, v_ 16 0, v_ 17 4, s 18 (.iadr 5 (t 16) (t 17)), s 19 (a_ 5 18), s 20 (.call 94 [(t 19)]), s 21 (.iadr 5 (t 14) (t 15)), ⟨none, none, (.store 5 (t 21) (t 20))⟩])) (r_ [v_ 12 4, s 13 (.bin .add (t 12) (i_ 1)), v_ 4 13])))))) (q_ (r_ [v_ 22 3, v_ 2 22]) .ret))))
theorem toCondS.ir : IrAt Tryz.prog 52 toCondS.code [0, 2, 3, 4] [.tmp 2] Tryz.f52.ntmps := ir_ Tryz.func52
abbrev toCondS.Ret (args : List AV) (r : AV) (frs : Fr) : Prop := Abs.Ret true Tryz.prog 52 args r frs
def toFact.code : ACode := (q_ (r_ [s 1 (.box (t 0)), s 2 (.alloc [(.string (.mk (.mk []))), (.slice none 0 0)])]) (q_ (r_ [s 3 (.alloc [(.string (.mk (.mk []))), (.slice none 0 0)])]) (q_ (r_ [s 4 (f_ 0 1), s 5 (l_ 4), s 6 (f_ 0 3), ⟨none, none, (.store 1 (t 6) (t 5))⟩]) (q_ (r_ [s 7 (f_ 1 1), s 8 (l_ 7), s 9 (.call 96 [(t 8)]), s 10 (f_ 1 3), ⟨none, none, (.store 1 (t 10) (t 9))⟩]) (q_ (r_ [s 11 (a_ 2 3), ⟨none, none, (.store 2 (t 2) (t 11))⟩]) .ret)))))
theorem toFact.ir : IrAt Tryz.prog 54 toFact.code [0, 1, 2, 3] [.cell 2 true 2] Tryz.f54.ntmps := ir_ Tryz.func54
abbrev toFact.Ret (args : List AV) (r : AV) (frs : Fr) : Prop := Abs.Ret true Tryz.prog 54 args r frs
def toFactS.code : ACode := (q_ (r_ [s 2 (.mv (.const (.slice none 0 0)))]) (q_ (r_ [v_ 5 0, s 6 (.len false (t 5)), s 7 (.make 86 [(.string (.mk (.mk []))), (.slice none 0 0)] 2 40 (t 6)), v_ 3 7]) (q_ (.seq (r_ [s 4 (.mv (i_ 0))]) (.block 0 (.loop (q_ (.seq (r_ [v_ 8 4, v_ 9 0, s 10 (.len false (t 9)), s 11 (.bin .lss (t 8) (t 10))]) (.cond (t 11) .skip (.exit 0))) (q_ (.block 1 (r_ [v_ 14 3, v_ 15 4, v_ 16 0, v_ 17 4, s 18 (.iadr 2 (t 16) (t 17)), s 19 (a_ 2 18), s 20 (.call 54 [(t 19)]), s 21 (.iadr 2 (t 14) (t 15)), ⟨none, none, (.store 2 (t 21) (t 20))⟩])) (r_ [v_ 12 4, s 13 (.bin .add (t 12) (i_ 1)), v_ 4 13])))))) (q_ (r_ [v_ 22 3, v_ 2 22]) .ret))))
theorem toFactS.ir : IrAt Tryz.prog 13 toFactS.code [0, 2, 3, 4] [.tmp 2] Tryz.f13.ntmps := ir_ Tryz.func13
abbrev toFactS.Own (args : List AV) (x : Tr) : Prop := Abs.Own true Tryz.prog 13 args x
abbrev toFactS.Ret (args : List AV) (r : AV) (frs : Fr) : Prop := Abs.Ret true Tryz.prog 13 args r frs
def toMatch.code : ACode := (q_ (r_ [s 1 (.box (t 0)), s 2 (.alloc [(.string (.mk (.mk []))), (.slice none 0 0), (.slice none 0 0)])]) (q_ (r_ [s 3 (.alloc [(.string (.mk (.mk []))), (.slice none 0 0), (.slice none 0 0)])]) (q_ (r_ [s 4 (f_ 0 1), s 5 (l_ 4), s 6 (f_ 0 3), ⟨none, none, (.store 1 (t 6) (t 5))⟩]) (q_ (r_ [s 7 (f_ 1 1), s 8 (l_ 7), s 9 (.call 13 [(t 8)]), s 10 (f_ 1 3), ⟨none, none, (.store 1 (t 10) (t 9))⟩]) (q_ (r_ [s 11 (f_ 2 1), s 12 (l_ 11), s 13 (.call 73 [(t 12)]), s 14 (f_ 2 3), ⟨none, none, (.store 1 (t 14) (t 13))⟩]) (q_ (r_ [s 15 (a_ 3 3), ⟨none, none, (.store 3 (t 2) (t 15))⟩]) .ret))))))
theorem toMatch.ir : IrAt Tryz.prog 35 toMatch.code [0, 1, 2, 3] [.cell 2 true 3] Tryz.f35.ntmps := ir_ Tryz.func35
abbrev toMatch.Own (args : List AV) (x : Tr) : Prop := Abs.Own true Tryz.prog 35 args x
abbrev toMatch.Ret (args : List AV) (r : AV) (frs : Fr) : Prop := Abs.Ret true Tryz.prog 35 args r frs
def toPair.code : ACode := (q_ (r_ [s 1 (.box (t 0)), s 2 (.alloc [(.string (.mk (.mk []))), (.string (.mk (.mk [])))])]) (q_ (r_ [s 3 (.alloc [(.string (.mk (.mk []))), (.string (.mk (.mk [])))])]) (q_ (r_ [s 4 (f_ 0 1), s 5 (l_ 4), s 6 (f_ 0 3), ⟨none, none, (.store 1 (t 6) (t 5))⟩]) (q_ (r_ [s 7 (f_ 1 1), s 8 (l_ 7), s 9 (f_ 1 3), ⟨none, none, (.store 1 (t 9) (t 8))⟩]) (q_ (r_ [s 10 (a_ 2 3), ⟨none, none, (.store 2 (t 2) (t 10))⟩]) .ret)))))
theorem toPair.ir : IrAt Tryz.prog 114 toPair.code [0, 1, 2, 3] [.cell 2 true 2] Tryz.f114.ntmps := ir_ Tryz.func114
abbrev toPair.Ret (args : List AV) (r : AV) (frs : Fr) : Prop := Abs.Ret true Tryz.prog 114 args r frs
def toPairS.code : ACode := (q_ (r_ [s 2 (.mv (.const (.slice none 0 0)))]) (q_ (r_ [v_ 5 0, s 6 (.len false (t 5)), s 7 (.make 141 [(.string (.mk (.mk []))), (.string (.mk (.mk [])))] 2 32 (t 6)), v_ 3 7]) (q_ (.seq (r_ [s 4 (.mv (i_ 0))]) (.block 0 (.loop (q_ (.seq (r_ [v_ 8 4, v_ 9 0, s 10 (.len false (t 9)), s 11 (.bin .lss (t 8) (t 10))]) (.cond (t 11) .skip (.exit 0))) (q_ (.block 1 (r_ [v_ 14 3, v_ 15 4, v_ 16 0, v_ 17 4, s 18 (.iadr 2 (t 16) (t 17)), s 19 (a_ 2 18), s 20 (.call 114 [(t 19)]), s 21 (.iadr 2 (t 14) (t 15)), ⟨none, none, (.store 2 (t 21) (t 20))⟩])) (r_ [v_ 12 4, s 13 (.bin .add (t 12) (i_ 1)), v_ 4 13])))))) (q_ (r_ [v_ 22 3, v_ 2 22]) .ret))))
theorem toPairS.ir : IrAt Tryz.prog 73 toPairS.code [0, 2, 3, 4] [.tmp 2] Tryz.f73.ntmps := ir_ Tryz.func73
abbrev toPairS.Ret (args : List AV) (r : AV) (frs : Fr) : Prop := Abs.Ret true Tryz.prog 73 args r frs
def toPattern.code : ACode := (q_ (r_ [s 1 (.box (t 0)), s 2 (.alloc [(.string (.mk (.mk []))), (.slice none 0 0)])]) (q_ (r_ [s 3 (.alloc [(.string (.mk (.mk []))), (.slice none 0 0)])]) (q_ (r_ [s 4 (f_ 0 1), s 5 (l_ 4), s 6 (f_ 0 3), ⟨none, none, (.store 1 (t 6) (t 5))⟩]) (q_ (r_ [s 7 (f_ 1 1), s 8 (l_ 7), s 9 (.call 96 [(t 8)]), s 10 (f_ 1 3), ⟨none, none, (.store 1 (t 10) (t 9))⟩]) (q_ (r_ [s 11 (a_ 2 3), ⟨none, none, (.store 2 (t 2) (t 11))⟩]) .ret)))))
theorem toPattern.ir : IrAt Tryz.prog 132 toPattern.code [0, 1, 2, 3] [.cell 2 true 2] Tryz.f132.ntmps := ir_ Tryz.func132
abbrev toPattern.Ret (args : List AV) (r : AV) (frs : Fr) : Prop := Abs.Ret true Tryz.prog 132 args r frs
def toRule.code : ACode := (q_ (r_ [s 1 (.box (t 0)), s 2 (.alloc [(.string (.mk (.mk []))), (.int .i64 (.ofNat 0)), (.slice none 0 0), (.slice none 0 0)])]) (q_ (r_ [s 3 (.alloc [(.string (.mk (.mk []))), (.int .i64 (.ofNat 0)), (.slice none 0 0), (.slice none 0 0)])]) (q_ (r_ [s 4 (f_ 0 1), s 5 (l_ 4), s 6 (f_ 0 3), ⟨none, none, (.store 1 (t 6) (t 5))⟩]) (q_ (r_ [s 7 (f_ 1 1), s 8 (l_ 7), s 9 (f_ 1 3), ⟨none, none, (.store 1 (t 9) (t 8))⟩]) (q_ (r_ [s 10 (f_ 2 1), s 11 (l_ 10), s 12 (.call 52 [(t 11)]), s 13 (f_ 2 3), ⟨none, none, (.store 1 (t 13) (t 12))⟩]) (q_ (r_ [s 14 (f_ 3 1), s 15 (l_ 14), s 16 (.call 53 [(t 15)]), s 17 (f_ 3 3), ⟨none, none, (.store 1 (t 17) (t 16))⟩]) (q_ (r_ [s 18 (a_ 4 3), ⟨none, none, (.store 4 (t 2) (t 18))⟩]) .ret)))))))
theorem toRule.ir : IrAt Tryz.prog 12 toRule.code [0, 1, 2, 3] [.cell 2 true 4] Tryz.f12.ntmps := ir_ Tryz.func12
abbrev toRule.Own (args : List AV) (x : Tr) : Prop := Abs.Own true Tryz.prog 12 args x
abbrev toRule.Ret (args : List AV) (r : AV) (frs : Fr) : Prop := Abs.Ret true Tryz.prog 12 args r frs
def toStringS.code : ACode := (q_ (r_ [s 2 (.mv (.const (.slice none 0 0)))]) (q_ (r_ [v_ 5 0, s 6 (.len false (t 5)), s 7 (.make 9 [(.string (.mk (.mk [])))] 1 16 (t 6)), v_ 3 7]) (q_ (.seq (r_ [s 4 (.mv (i_ 0))]) (.block 0 (.loop (q_ (.seq (r_ [v_ 8 4, v_ 9 0, s 10 (.len false (t 9)), s 11 (.bin .lss (t 8) (t 10))]) (.cond (t 11) .skip (.exit 0))) (q_ (.block 1 (r_ [v_ 14 3, v_ 15 4, v_ 16 0, v_ 17 4, s 18 (.iadr 1 (t 16) (t 17)), s 19 (l_ 18), s 20 (.iadr 1 (t 14) (t 15)), ⟨none, none, (.store 1 (t 20) (t 19))⟩])) (r_ [v_ 12 4, s 13 (.bin .add (t 12) (i_ 1)), v_ 4 13])))))) (q_ (r_ [v_ 21 3, v_ 2 21]) .ret))))
theorem toStringS.ir : IrAt Tryz.prog 96 toStringS.code [0, 2, 3, 4] [.tmp 2] Tryz.f96.ntmps := ir_ Tryz.func96
abbrev toStringS.Ret (args : List AV) (r : AV) (frs : Fr) : Prop := Abs.Ret true Tryz.prog 96 args r frs
end Go.Proofs.YtoindmahilbalaaGreat
namespace Go.Proofs.YtoindmahilbalaaGreat
open Abs
def part (z : List AV) (xs : List (List AV)) (i : Nat) : List AV := (xs.take i).flatten ++ (List.replicate (xs.length - i) z).flatten
theorem setAt_mid {α : Type} : ∀ (x a b c : List α), b.length = x.length → setAt (a ++ b ++ c) a.length x = a ++ x ++ c
  | [], a, b, c, h => by cases b with
    | nil => rfl
    | cons _ _ => simp at h
  | y :: x, a, b, c, h => by
    cases b with
    | nil => simp at h
    | cons b0 b =>
      have h1 : (a ++ b0 :: b ++ c).set a.length y = (a ++ [y]) ++ b ++ c := by simp
      have h2 : a.length + 1 = (a ++ [y]).length := by simp
      rw [setAt, h1, h2, setAt_mid x (a ++ [y]) b c (by simpa using h)]
      simp
theorem part_set {z : List AV} {xs : List (List AV)} {i sz : Nat} (hz : z.length = sz) (hx : ∀ x ∈ xs, x.length = sz) {x : List AV} (hi : xs[i]? = some x) : setAt (part z xs i) (i * sz) x = part z xs (i + 1) := by
  have hlt := getElem?_lt hi
  have h1 : (xs.take i).flatten.length = i * sz := by rw [length_flatten' sz _ (fun x h => hx x (List.mem_of_mem_take h)), List.length_take]; congr 1; omega
  obtain ⟨k, hk⟩ : ∃ k, xs.length - i = k + 1 := ⟨xs.length - i - 1, by omega⟩
  have hk2 : xs.length - (i + 1) = k := by omega
  have h2 : part z xs i = (xs.take i).flatten ++ z ++ (List.replicate k z).flatten := by
    rw [part, hk, List.replicate_succ, List.flatten_cons, List.append_assoc]
  have h3 : xs.take (i + 1) = xs.take i ++ [x] := by rw [List.take_add_one, hi]; rfl
  rw [h2, ← h1, setAt_mid _ _ _ _ (by rw [hz, hx x (List.mem_of_getElem? hi)]), part, hk2, h3]
  simp
theorem part_made {z : List Value} {xs : List (List AV)} {sz m : Nat} (hz : z.length = sz) (hp : 0 < sz) (hm : m = xs.length * sz) : madeK z m = part (z.map constAV) xs 0 := by
  subst hm
  have h1 : (List.replicate xs.length (z.map constAV)).flatten.length = xs.length * sz := by rw [length_flatten' sz]; · simp
                                                                                             · intro x hx; rw [List.eq_of_mem_replicate hx]; simp [hz]
  apply List.ext_getElem?
  intro i
  by_cases hi : i < xs.length * sz
  · have hq : i / sz < xs.length := (Nat.div_lt_iff_lt_mul hp).2 hi
    have hr : i % sz < sz := Nat.mod_lt _ hp
    have hf := flatten_get sz (List.replicate xs.length (z.map constAV)) (i / sz) (i % sz) (z.map constAV) (constAV (z.getD (i % sz) undef)) (fun x hx => by rw [List.eq_of_mem_replicate hx]; simp [hz]) (by simp [hq]) (by simp [hz, hr, List.getD])
    rw [show i / sz * sz + i % sz = i by rw [Nat.mul_comm]; exact Nat.div_add_mod _ _] at hf
    simp only [part, List.take_zero, List.flatten_nil, List.nil_append, Nat.sub_zero]
    rw [hf, madeK]
    simp [hi, hz]
  · rw [List.getElem?_eq_none (by simp [madeK]; omega)]
    simp only [part, List.take_zero, List.flatten_nil, List.nil_append, Nat.sub_zero]
    rw [List.getElem?_eq_none (by rw [h1]; omega)]
theorem part_all (z : List AV) (xs : List (List AV)) : part z xs xs.length = xs.flatten := by simp [part]
theorem part_len {z : List AV} {xs : List (List AV)} {i sz : Nat} (hz : z.length = sz) (hx : ∀ x ∈ xs, x.length = sz) (hi : i ≤ xs.length) : (part z xs i).length = xs.length * sz := by
  rw [part, List.length_append, length_flatten' sz _ (fun x h => hx x (List.mem_of_mem_take h)), length_flatten' sz _ (fun x h => by rw [List.eq_of_mem_replicate h]; exact hz), List.length_take, List.length_replicate, ← Nat.add_mul]
  congr 1; omega
theorem strs_get {l : List Str} {i : Nat} (hi : i < l.length) : (strs l)[i]? = some [.str (l.getD i [])] := by simp [strs_eq, List.getD, hi]
theorem toStringS.ret (l : List Str) (hl : l.length ≤ 1048576) : toStringS.Ret [.list none (strs l)] (.list (some 0) (strs l)) [(9, 1, l.length)] := by
  refine toStringS.ir.of rfl ?_
  repeat' first
    | (conv => whnf
       first | refine Need.fin ?_)
  refine ALoop.mk Nat (fun i => ⟨[(0, .list none (strs l)), (3, .bsl 0 l.length), (4, .val (.int .i64 i))], [.cells (.row 9 1) (part [.str []] (strs l) i)], []⟩) (fun i => i ≤ l.length) (fun i => l.length - i) ⟨0, Nat.zero_le _, ?_⟩ (fun i hi => ?_)
  · repeat' first
      | exact trivial | refine wl_ ?_ ?_ ?_ ?_ | refine And.intro ?_ ?_ | with_reducible rfl | exact ble_ | refine AV.int_congr ?_ | refine AV.list_congr ?_ | refine AV.bsl_congr ?_ ?_ | (apply rfl)
    · simp
    · simp only [List.nil_append, List.length_cons, List.length_nil, List.take_succ_cons, List.take_zero]
      rw [part_made (xs := strs l) (sz := 1) rfl (by decide) (by simp)]; rfl
  repeat' first
    | (conv => whnf
       first | refine Need.mk rfl ?_ | refine Need.fin ?_ | refine Need.mk ?_ ?_ | refine Ix.strsF rfl ?_ | refine Fork.dec (fun _ => ?_) (fun _ => ?_) | refine Round.mk ?_)
  · rename_i h
    rw [length_strs] at h
    rw [part_len (sz := 1) rfl (strs_sz l) (by simp; exact hi), Int.toNat_natCast, length_strs]
    exact ⟨rfl, by omega⟩
  · rename_i h
    rw [length_strs] at h
    refine ⟨i + 1, by omega, ?_, by omega⟩
    repeat' first
      | exact trivial | refine wl_ ?_ ?_ ?_ ?_ | refine And.intro ?_ ?_ | with_reducible rfl | exact ble_ | refine AV.int_congr ?_ | refine AV.list_congr ?_ | refine AV.bsl_congr ?_ ?_
    · rw [wrap64 (by omega) (by omega)]; rfl
    · simp only [Int.toNat_natCast]
      have := part_set (z := [.str []]) (sz := 1) rfl (strs_sz l) (strs_get (l := l) (i := i) (by omega))
      simp only [List.set_cons_zero, List.take_succ_cons, List.take_zero, List.length_cons, List.length_nil, this]
  · rename_i h
    rw [length_strs] at h
    conv => whnf
    have : i = l.length := by omega
    subst this
    refine FreezeD.flat (Freeze.mk (strs l) _ 9 1 rfl (by have := part_all [.str []] (strs l); rwa [length_strs] at this) (by simp) (strs_sz l) (fun c hc => ?_) ?_)
    · have e := part_all [.str []] (strs l)
      rw [length_strs] at e
      rw [e, List.mem_flatten] at hc
      obtain ⟨x, hx, hc⟩ := hc
      rw [strs_eq] at hx
      obtain ⟨s, _, rfl⟩ := List.mem_map.1 hx
      simp at hc; subst hc; rfl
    · exact Final.mk rfl rfl
theorem own_strs (fr : Fr) : ∀ l : List Str, OwnA fr (l.map sq).flatten (strs l).flatten []
  | [] => .nil
  | s :: l => .s s (own_strs fr l)
theorem eqStringS.ret (l m : List Str) (hl : l.length ≤ 1099511627776) : eqStringS.Ret [.list none (strs l), .list none (strs m)] (.val (.bool (decide (l = m)))) [] := by
  refine eqStringS.ir.of rfl ?_
  repeat' first
    | (conv => whnf
       first | refine Need.mk rfl ?_ | refine Fork.bne (fun _ => ?_) (fun _ => ?_) | refine FinVal.keep ?_ | refine Final.mk ?_ rfl)
    | refine AV.bool_congr ?_
  · rename_i h
    rw [length_strs, length_strs] at h
    have h3 : ¬ l = m := fun e => h (by rw [e])
    simp [h3]
  rename_i h
  rw [length_strs, length_strs] at h
  have h : l.length = m.length := by omega
  skip
  refine ALoop.mk Nat (fun i => ⟨[(0, .list none (strs l)), (1, .list none (strs m)), (5, .val (.int .i64 i))], [], []⟩) (fun i => i ≤ l.length ∧ l.take i = m.take i) (fun i => l.length - i) ⟨0, ⟨Nat.zero_le _, rfl⟩, ?_⟩ (fun i hi => ?_)
  · repeat' first
      | exact trivial | refine wl_ ?_ ?_ ?_ ?_ | refine And.intro ?_ ?_ | with_reducible rfl | exact ble_ | refine AV.int_congr ?_ | refine AV.list_congr ?_ | (apply rfl)
  repeat' first
    | (conv => whnf
       first | refine Need.mk rfl ?_ | refine Ix.strsF rfl ?_ | refine Fork.dec (fun _ => ?_) (fun _ => ?_) | refine Fork.sne (fun _ => ?_) (fun _ => ?_) | refine Round.mk ?_ | refine FinVal.keep ?_ | refine Final.mk ?_ rfl)
    | refine AV.bool_congr ?_
  · rename_i h1 h2
    have h3 : ¬ l = m := fun e => h2 (by rw [e])
    simp [h3]
  · rename_i h1 h2
    rw [length_strs] at h1
    refine ⟨i + 1, ⟨by omega, ?_⟩, ?_, by omega⟩
    · rw [take_succ' [] (by omega), take_succ' (l := m) [] (by omega), hi.2]
      rw [Int.toNat_natCast] at h2
      have h2' : l.getD i [] = m.getD i [] := h2
      rw [h2']
    · repeat' first
        | exact trivial | refine wl_ ?_ ?_ ?_ ?_ | refine And.intro ?_ ?_ | with_reducible rfl | exact ble_ | refine AV.int_congr ?_ | refine AV.list_congr ?_ | (apply rfl)
      rw [wrap64 (by omega) (by omega)]; rfl
  · rename_i h1
    rw [length_strs] at h1
    have h2 := hi.2
    rw [List.take_of_length_le (by omega), List.take_of_length_le (by omega)] at h2
    simp [h2]
def szL : List Str → Nat
  | [] => 0
  | s :: l => s.length + szL l
def szT (l : List Str) : Nat := l.length + szL l
theorem szL_take_succ {l : List Str} {i : Nat} (hi : i < l.length) : szL (l.take (i + 1)) = szL (l.take i) + (l.getD i []).length := by
  induction l generalizing i with
  | nil => simp at hi
  | cons s l ih =>
    cases i with
    | zero => simp [szL]
    | succ i => simp only [List.take_succ_cons, szL, ih (show i < l.length by simpa using hi)]; simp [Nat.add_assoc]
theorem szL_le_take (l : List Str) (i : Nat) : szL (l.take i) ≤ szL l := by
  induction l generalizing i with
  | nil => simp [szL]
  | cons s l ih => cases i with
    | zero => simp [szL]
    | succ i => simp only [List.take_succ_cons, szL]; have := ih i; omega
def left (a : Int) (n : Nat) : Int := if a - n < 0 then -1 else a - n
theorem left_eq {a : Int} {n : Nat} {x : Int} (h : (x = -1 ∧ a < n) ∨ (x = a - n ∧ ¬ a < n)) : x = left a n := by unfold left; split <;> omega
theorem szStringS.ret (l : List Str) (a : Int) (h0 : 0 ≤ a) (ha : a ≤ 1048576) (hl : l.length ≤ 9223372036854775807) (hs : ∀ s ∈ l, s.length ≤ 9223372036854775807) :
    szStringS.Ret [.list none (strs l), .val (.int .i64 a)] (.val (.int .i64 (left a (szT l)))) [] := by
  refine szStringS.ir.of rfl ?_
  have hw : IntKind.i64.wrap (a - ((strs l).length : Int)) = a - l.length := by rw [length_strs]; exact wrap64 (by omega) (by omega)
  repeat' first
    | (conv => whnf
       first | refine Need.mk rfl ?_ | refine Fork.dec (fun _ => ?_) (fun _ => ?_) | refine FinVal.keep ?_ | refine Final.mk ?_ rfl)
    | refine AV.int_congr ?_
  · rename_i h
    rw [hw] at h
    rw [left, if_pos (by unfold szT; omega)]
  rename_i h
  rw [hw] at h
  skip
  refine ALoop.mk Nat (fun i => ⟨[(0, .list none (strs l)), (1, .val (.int .i64 (a - l.length - szL (l.take i)))), (5, .val (.int .i64 i))], [], []⟩) (fun i => i ≤ l.length ∧ (0 : Int) ≤ a - l.length - szL (l.take i)) (fun i => l.length - i) ⟨0, ⟨Nat.zero_le _, by simp [szL]; omega⟩, ?_⟩ (fun i hi => ?_)
  · repeat' first
      | exact trivial | refine wl_ ?_ ?_ ?_ ?_ | refine And.intro ?_ ?_ | with_reducible rfl | exact ble_ | refine AV.int_congr ?_ | refine AV.list_congr ?_ | (apply rfl)
    rw [hw]; simp [szL]
  obtain ⟨hp1, hp2⟩ := hi
  have hg : ∀ i, (l.getD i []).length ≤ 9223372036854775807 := fun i => by
    rcases Nat.lt_or_ge i l.length with h | h
    · simp only [List.getD, List.getElem?_eq_getElem h, Option.getD_some]; exact hs _ (List.getElem_mem h)
    · simp [List.getD, List.getElem?_eq_none h]
  repeat' first
    | (conv => whnf
       first | refine Need.mk rfl ?_ | refine Ix.strsF rfl ?_ | refine Fork.dec (fun _ => ?_) (fun _ => ?_) | refine Round.mk ?_ | refine FinVal.keep ?_ | refine Final.mk ?_ rfl)
    | refine AV.int_congr ?_
  · rename_i h1 h2
    rw [length_strs] at h1
    have h4 := hg i
    have h3 := szL_take_succ (l := l) (i := i) (by omega)
    have h5 := szL_le_take l (i + 1)
    change IntKind.i64.wrap (a - ↑l.length - ↑(szL (l.take i)) - ((l.getD i []).length : Int)) < 0 at h2
    rw [wrap64 (by omega) (by omega)] at h2
    rw [left, if_pos (by unfold szT; omega)]
  · rename_i h1 h2
    rw [length_strs] at h1
    have h4 := hg i
    have h3 := szL_take_succ (l := l) (i := i) (by omega)
    change ¬ IntKind.i64.wrap (a - ↑l.length - ↑(szL (l.take i)) - ((l.getD i []).length : Int)) < 0 at h2
    rw [wrap64 (by omega) (by omega)] at h2
    refine ⟨i + 1, ⟨by omega, by omega⟩, ?_, by omega⟩
    repeat' first
      | exact trivial | refine wl_ ?_ ?_ ?_ ?_ | refine And.intro ?_ ?_ | with_reducible rfl | exact ble_ | refine AV.int_congr ?_ | refine AV.list_congr ?_ | (apply rfl)
    · change IntKind.i64.wrap (a - ↑l.length - ↑(szL (l.take i)) - ((l.getD i []).length : Int)) = _
      rw [wrap64 (by omega) (by omega)]; omega
    · rw [wrap64 (by omega) (by omega)]; rfl
  · rename_i h1
    rw [length_strs] at h1
    rw [List.take_of_length_le (by omega)] at hp2 ⊢
    rw [left, if_neg (by unfold szT; omega)]; unfold szT; omega
end Go.Proofs.YtoindmahilbalaaGreat
namespace Go.Proofs.YtoindmahilbalaaGreat
open Abs
def digs : Nat → Nat → Str → Str
  | 0, _, a => a
  | n + 1, k, a => if k = 0 then a else digs n (k / 10) (UInt8.ofNat (48 + k % 10) :: a)
@[irreducible] def markF (k : Nat) : Str := if k = 0 then [109, 48] else 109 :: digs k k []
def markL (n k : Nat) : List Str := (List.range n).map fun i => markF (k + i)
@[simp] theorem length_markL (n k : Nat) : (markL n k).length = n := by simp [markL]
theorem gvLL_sq : ∀ (l : List Str) (n : Nat), gvLL (l.map sq) n = l.map AV.str
  | [], _ => rfl
  | s :: l, n => by simp [gvLL, sq, gvL, gv, gvLL_sq l]
theorem gbLL_sq : ∀ (l : List Str) (n : Nat), gbLL (l.map sq) n = []
  | [], _ => rfl
  | s :: l, n => by simp [gbLL, sq, gbL, gb, gbLL_sq l]
def strT (l : List Str) : Tr := .l 9 1 (l.map sq)
theorem gb_strT (l : List Str) (n : Nat) : gb (strT l) n = [.cells (.row 9 1) (l.map AV.str)] := by rw [strT, gb, gvLL_sq, gbLL_sq]
theorem gv_strT (l : List Str) (n : Nat) : gv (strT l) n = .bsl n l.length := by rw [strT, gv, List.length_map]
end Go.Proofs.YtoindmahilbalaaGreat
namespace Go.Proofs.YtoindmahilbalaaGreat
open Abs
def tStrs : Ty (List Str) := Ty.plain 9 Ty.str (fun _ => rfl) (fun _ => rfl)
abbrev Fct := Str × List Str
def tFct : Ty Fct := Ty.pair Ty.str tStrs
abbrev facts (l : List Fct) : List (List AV) := rows tFct l
theorem szT_eq (l : List Str) : szT l = tStrs.size l := by
  show szT l = l.length + listSize Ty.str l
  unfold szT
  congr 1
  induction l with
  | nil => rfl
  | cons s l ih => simp only [szL, listSize, ih]; rfl
theorem Abs.ACall.mkStrs {C : Con} {lend : Bool} {f : Nat} {vs : List AV} {b : List ABox} {fr : Fr} {k : AV → List ABox → Fr → Prop} (ys : List AV) (l : List Str) (h : C.ret f ys (.list (some 0) (strs l)) [(9, 1, l.length)]) (hv : SeesL Sees0 vs ys)
    (hk : k (.list (some fr.length) (strs l)) b (fr ++ [(9, 1, l.length)])) : ACall C lend f vs b fr k :=
  ACall.mkV tStrs ys l (fun n => .list (some n) (strs l)) (fun _ => rfl) h hv hk
theorem Abs.ACall.mkFct {C : Con} {lend : Bool} {f : Nat} {vs : List AV} {b : List ABox} {fr : Fr} {k : AV → List ABox → Fr → Prop} (ys : List AV) (a : Fct) (h : C.ret f ys (.agg (tFct.tk a 0)) (tFct.fr a)) (hv : SeesL Sees0 vs ys)
    (hk : k (.agg (tFct.tk a fr.length)) b (fr ++ tFct.fr a)) : ACall C lend f vs b fr k := ACall.mkA tFct ys a h hv hk
theorem tFct_size (f : Fct) : tFct.size f = f.1.length + tStrs.size f.2 := rfl
theorem tStrs_size (l : List Str) : tStrs.size l = l.length + listSize Ty.str l := rfl
theorem toFact.ret (f : Fct) (h : tFct.size f ≤ 1048576) : toFact.Ret [.agg (oldL (tFct.q f))] (.agg (tFct.tk f 0)) (tFct.fr f) := by
  refine toFact.ir.of rfl ?_
  rw [tFct_size, tStrs_size] at h
  repeat' first
    | (conv => whnf
       first | refine Need.mk ⟨rfl, Nat.le_of_ble_eq_true rfl⟩ ?_ | refine nb_ ?_ | refine FinAgg.keep ?_ | refine Final.mk rfl rfl | refine ACall.mkStrs _ _ (toStringS.ret _ ?_) (by repeat' first | exact SeesL.nil | refine SeesL.cons ?_ ?_ | exact SeesB.of0 (Sees0.val _) | exact SeesB.of0 (Sees0.str _) | exact SeesB.of0 (Sees0.olds _ _) | exact SeesB.of0 (Sees0.old _) | exact SeesB.of0 (Sees0.oldagg _) | exact SeesB.of0 Sees0.nil | exact Sees0.val _ | exact Sees0.str _ | exact Sees0.olds _ _ | exact Sees0.old _ | exact Sees0.oldagg _ | exact Sees0.nil | exact SeesB.of0 (Sees0.any _) | assumption | exact sees_gv _ _ _ (by assumption) (by first | assumption | exact BoxIn.last _ _ | exact BoxIn.more (BoxIn.last _ _) _) | refine SeesB.agg ?_ | refine Sees0.agg ?_ | exact SeesB.of0 (Sees0.clo SeesL.nil SeesL.nil) | exact Sees0.clo SeesL.nil SeesL.nil | exact SeesB.of0 (Sees0.list rfl) | exact Sees0.list rfl) ?_)
  omega
theorem szFact.ret (f : Fct) (a : Int) (h0 : 0 ≤ a) (ha : a ≤ 1048576) (hb : tFct.bd f) :
    szFact.Ret [.agg (oldL (tFct.q f)), .val (.int .i64 a)] (.val (.int .i64 (left a (tFct.size f)))) [] := by
  refine szFact.ir.of rfl ?_
  obtain ⟨h1, h2, hs⟩ := hb
  have h1 : f.1.length ≤ 9223372036854775807 := h1
  have hw : IntKind.i64.wrap (a - (f.1.length : Int)) = a - f.1.length := wrap64 (by omega) (by omega)
  have hz := tFct_size f
  have hz2 := szT_eq f.2
  repeat' first
    | (conv => whnf
       first | refine Need.mk rfl ?_ | refine Fork.dec (fun _ => ?_) (fun _ => ?_) | refine FinVal.keep ?_ | refine Final.mk ?_ rfl | refine ACall.scalA _ _ (szStringS.ret _ _ ?_ ?_ ?_ ?_) rfl ?_)
    | refine AV.int_congr ?_
  all_goals rw [hw] at *
  all_goals first
    | assumption
    | omega
    | (unfold left at *; rw [hz, hz2] at *; split at * <;> (try split at *) <;> (try split) <;> omega)
end Go.Proofs.YtoindmahilbalaaGreat
namespace Go.Proofs.YtoindmahilbalaaGreat
open Abs
def tFcts : Ty (List Fct) := Ty.list 86 tFct
theorem tFcts_size (l : List Fct) : tFcts.size l = l.length + listSize tFct l := rfl
theorem facts_get {l : List Fct} {i : Nat} (hi : i < l.length) : l[i]? = some (l.getD i default) := by simp [List.getD, hi]
theorem tFcts_frs_succ {l : List Fct} {i : Nat} (hi : i < l.length) : frs tFct (l.take (i + 1)) = frs tFct (l.take i) ++ tFct.fr (l.getD i default) := by
  rw [take_succ' default hi, frs_append]; simp [frs]
theorem Abs.ACall.mkFcts {C : Con} {lend : Bool} {f : Nat} {vs : List AV} {b : List ABox} {fr : Fr} {k : AV → List ABox → Fr → Prop} (ys : List AV) (l : List Fct) (h : C.ret f ys (.list (some (0 + (frs tFct l).length)) (tks tFct l 0)) (tFcts.fr l)) (hv : SeesL Sees0 vs ys)
    (hk : k (.list (some (fr.length + (frs tFct l).length)) (tks tFct l fr.length)) b (fr ++ tFcts.fr l)) : ACall C lend f vs b fr k :=
  ACall.mkV tFcts ys l (fun n => .list (some (n + (frs tFct l).length)) (tks tFct l n)) (fun _ => rfl) h hv hk
theorem toFactS.ret (l : List Fct) (h : tFcts.size l ≤ 1048576) : toFactS.Ret [.list none (facts l)] (.list (some (0 + (frs tFct l).length)) (tks tFct l 0)) (tFcts.fr l) := by
  refine toFactS.ir.of rfl ?_
  rw [tFcts_size] at h
  repeat' first
    | (conv => whnf
       first | refine Need.fin ?_)
  refine ALoop.mk Nat (fun i => ⟨[(0, .list none (facts l)), (3, .bsl 0 l.length), (4, .val (.int .i64 i))], [.cells (.row 86 2) (part [.str [], .val (.slice none 0 0)] (tks tFct l 0) i)], frs tFct (l.take i)⟩) (fun i => i ≤ l.length) (fun i => l.length - i) ⟨0, Nat.zero_le _, ?_⟩ (fun i hi => ?_)
  · repeat' first
      | exact trivial | refine wl_ ?_ ?_ ?_ ?_ | refine And.intro ?_ ?_ | with_reducible rfl | exact ble_ | refine AV.int_congr ?_ | refine AV.list_congr ?_ | refine AV.bsl_congr ?_ ?_ | (apply rfl)
    · simp
    · simp only [List.nil_append, List.length_cons, List.length_nil, List.take_succ_cons, List.take_zero]
      rw [part_made (xs := tks tFct l 0) (sz := 2) rfl (by decide) (by simp [length_tks])]; rfl
  repeat' first
    | (conv => whnf
       first | refine Need.mk rfl ?_ | refine nb_ ?_ | refine Need.fin ?_ | refine Need.mk ?_ ?_ | refine Ix.mapF (fun _ => rfl) ?_ | refine Fork.dec (fun _ => ?_) (fun _ => ?_) | refine Round.mk ?_ | refine ACall.mkFct _ _ (toFact.ret _ ?_) (by repeat' first | exact SeesL.nil | refine SeesL.cons ?_ ?_ | exact SeesB.of0 (Sees0.val _) | exact SeesB.of0 (Sees0.str _) | exact SeesB.of0 (Sees0.olds _ _) | exact SeesB.of0 (Sees0.old _) | exact SeesB.of0 (Sees0.oldagg _) | exact SeesB.of0 Sees0.nil | exact Sees0.val _ | exact Sees0.str _ | exact Sees0.olds _ _ | exact Sees0.old _ | exact Sees0.oldagg _ | exact Sees0.nil | exact SeesB.of0 (Sees0.any _) | assumption | exact sees_gv _ _ _ (by assumption) (by first | assumption | exact BoxIn.last _ _ | exact BoxIn.more (BoxIn.last _ _) _) | refine SeesB.agg ?_ | refine Sees0.agg ?_ | exact SeesB.of0 (Sees0.clo SeesL.nil SeesL.nil) | exact Sees0.clo SeesL.nil SeesL.nil | exact SeesB.of0 (Sees0.list rfl) | exact Sees0.list rfl) ?_)
  · rename_i h1
    rw [length_rows] at h1
    have := listSize_mem tFct (List.mem_of_getElem? (facts_get (l := l) (i := i) (by omega)))
    rw [Int.toNat_natCast]; omega
  · rename_i h1
    rw [length_rows] at h1
    rw [part_len (sz := 2) rfl (tks_sz tFct l 0) (by rw [length_tks]; exact hi), Int.toNat_natCast, length_tks]
    exact ⟨rfl, by omega⟩
  · rename_i h1
    rw [length_rows] at h1
    refine ⟨i + 1, by omega, ?_, by omega⟩
    repeat' first
      | exact trivial | refine wl_ ?_ ?_ ?_ ?_ | refine And.intro ?_ ?_ | with_reducible rfl | exact ble_ | refine AV.int_congr ?_ | refine AV.list_congr ?_ | refine AV.bsl_congr ?_ ?_
    · rw [wrap64 (by omega) (by omega)]; rfl
    · have := part_set (z := [.str [], .val (.slice none 0 0)]) (sz := 2) rfl (tks_sz tFct l 0) (tks_get tFct 0 (facts_get (l := l) (i := i) (by omega)))
      rw [Nat.zero_add] at this
      simp only [List.set_cons_zero, List.take_succ_cons, List.take_zero, List.length_cons, List.length_nil, Int.toNat_natCast, this]
    · rw [tFcts_frs_succ (by omega), Int.toNat_natCast]
  · rename_i h1
    rw [length_rows] at h1
    conv => whnf
    have : i = l.length := by omega
    subst this
    have hall := part_all [.str [], .val (.slice none 0 0)] (tks tFct l 0)
    rw [length_tks] at hall
    refine FreezeD.flat (Freeze.mk (tks tFct l 0) _ 86 2 rfl hall (length_tks _ _ _) (tks_sz tFct l 0) (fun c hc => ?_) ?_)
    · rw [hall] at hc; exact tks_nr tFct l 0 c hc
    · refine Final.mk ?_ ?_
      · rw [List.take_length, Nat.zero_add]
      · rw [List.take_length]; rfl
theorem toFactS.own (l : List Fct) (h : tFcts.size l ≤ 1048576) : toFactS.Own [.list none (facts l)] (.l 86 2 (l.map tFct.q)) :=
  Ty.ownV tFcts (x := .l 86 2 (l.map tFct.q)) rfl rfl (toFactS.ret l h)
theorem szFactS.ret (l : List Fct) (a : Int) (h0 : 0 ≤ a) (ha : a ≤ 1048576) (hb : tFcts.bd l) :
    szFactS.Ret [.list none (facts l), .val (.int .i64 a)] (.val (.int .i64 (left a (tFcts.size l)))) [] := by
  refine szFactS.ir.of rfl ?_
  obtain ⟨hl, hb⟩ := hb
  have hw : IntKind.i64.wrap (a - ((facts l).length : Int)) = a - l.length := by rw [length_rows]; exact wrap64 (by omega) (by omega)
  have hz := tFcts_size l
  repeat' first
    | (conv => whnf
       first | refine Need.mk rfl ?_ | refine Fork.dec (fun _ => ?_) (fun _ => ?_) | refine FinVal.keep ?_ | refine Final.mk ?_ rfl)
    | refine AV.int_congr ?_
  · rename_i h
    rw [hw] at h
    rw [left, if_pos (by omega)]
  rename_i h
  rw [hw] at h
  skip
  refine ALoop.mk Nat (fun i => ⟨[(0, .list none (facts l)), (1, .val (.int .i64 (a - l.length - listSize tFct (l.take i)))), (5, .val (.int .i64 i))], [], []⟩) (fun i => i ≤ l.length ∧ (0 : Int) ≤ a - l.length - listSize tFct (l.take i)) (fun i => l.length - i) ⟨0, ⟨Nat.zero_le _, by simp [listSize]; omega⟩, ?_⟩ (fun i hi => ?_)
  · repeat' first
      | exact trivial | refine wl_ ?_ ?_ ?_ ?_ | refine And.intro ?_ ?_ | with_reducible rfl | exact ble_ | refine AV.int_congr ?_ | refine AV.list_congr ?_ | (apply rfl)
    rw [hw]; simp [listSize]
  obtain ⟨hp1, hp2⟩ := hi
  have hle := listSize_take_le tFct l (i + 1)
  have hbi : i < l.length → tFct.bd (l.getD i default) := fun h => hb _ (List.mem_of_getElem? (facts_get h))
  have hsz : i < l.length → listSize tFct (l.take (i + 1)) = listSize tFct (l.take i) + tFct.size (l.getD i default) := fun h => listSize_take_succ tFct (facts_get h)
  repeat' first
    | (conv => whnf
       first | refine Need.mk rfl ?_ | refine nb_ ?_ | refine Ix.mapF (fun _ => rfl) ?_ | refine Fork.dec (fun _ => ?_) (fun _ => ?_) | refine Round.mk ?_ | refine FinVal.keep ?_ | refine Final.mk ?_ rfl | refine ACall.scalA _ _ (szFact.ret _ _ ?_ ?_ ?_) rfl ?_)
    | refine AV.int_congr ?_
  · exact hp2
  · omega
  · rename_i h1
    rw [length_rows] at h1
    rw [Int.toNat_natCast]; exact hbi (by omega)
  · rename_i h1 h2
    rw [length_rows] at h1
    rw [Int.toNat_natCast] at h2
    have := hsz (by omega)
    unfold left at h2 ⊢
    split at h2
    · rw [if_pos (by omega)]
    · omega
  · rename_i h1 h2
    rw [length_rows] at h1
    rw [Int.toNat_natCast] at h2
    have := hsz (by omega)
    have e : left (a - ↑l.length - ↑(listSize tFct (l.take i))) (tFct.size (l.getD i default)) = a - ↑l.length - ↑(listSize tFct (l.take (i + 1))) := by
      unfold left at h2 ⊢
      split at h2
      · omega
      · rw [if_neg ‹_›]; omega
    refine ⟨i + 1, ⟨by omega, ?_⟩, ?_, by omega⟩
    · rw [← e]; omega
    · repeat' first
        | exact trivial | refine wl_ ?_ ?_ ?_ ?_ | refine And.intro ?_ ?_ | with_reducible rfl | exact ble_ | refine AV.int_congr ?_ | refine AV.list_congr ?_ | (apply rfl)
      · rw [Int.toNat_natCast]; exact e
      · rw [wrap64 (by omega) (by omega)]; rfl
  · rename_i h1
    rw [length_rows] at h1
    rw [List.take_of_length_le (by omega)] at hp2 ⊢
    rw [left, if_neg (by omega)]; omega
end Go.Proofs.YtoindmahilbalaaGreat
namespace Go.Proofs.YtoindmahilbalaaGreat
namespace Abs
mutual
def c1 : Tr → Nat
  | .v _ => 1
  | .s _ => 1
  | .l _ _ xs => cnLL xs
  | .a _ => 0
  | .p _ => 0
def cnC : List Tr → Nat
  | [] => 0
  | x :: xs => c1 x + cnC xs
def cnLL : List (List Tr) → Nat
  | [] => 0
  | x :: xs => cnC x + cnLL xs
end
mutual
def cn : Tr → Nat
  | .l _ _ xs => cnLL xs
  | .a fs => cnA fs
  | .p fs => cnA fs
  | .v _ => 0
  | .s _ => 0
def cnA : List Tr → Nat
  | [] => 0
  | x :: xs => cn x + cnA xs
end
mutual
def m1 : Tr → Nat → Tr
  | .v _, k => .v (.int .i64 k)
  | .s _, k => .s (markF k)
  | .l t sz xs, k => .l t sz (mkLL xs k)
  | .a fs, _ => .a fs
  | .p fs, _ => .p fs
def mkC : List Tr → Nat → List Tr
  | [], _ => []
  | x :: xs, k => m1 x k :: mkC xs (k + c1 x)
def mkLL : List (List Tr) → Nat → List (List Tr)
  | [], _ => []
  | x :: xs, k => mkC x k :: mkLL xs (k + cnC x)
end
mutual
def mk : Tr → Nat → Tr
  | .l t sz xs, k => .l t sz (mkLL xs k)
  | .a fs, k => .a (mkA fs k)
  | .p fs, k => .p (mkA fs k)
  | .v x, _ => .v x
  | .s x, _ => .s x
def mkA : List Tr → Nat → List Tr
  | [], _ => []
  | x :: xs, k => mk x k :: mkA xs (k + cn x)
end
theorem cnC_append : ∀ xs ys, cnC (xs ++ ys) = cnC xs + cnC ys
  | [], ys => by simp [cnC]
  | x :: xs, ys => by rw [List.cons_append, cnC, cnC_append xs, cnC, Nat.add_assoc]
theorem Sees0.cut {xs : List AV} {ys : List Tr} (h : xs = oldL ys) : Sees0 (.agg xs) (.agg (oldL ys)) := by subst h; exact Sees0.oldagg ys
theorem cons_congr {α : Type} {a b : α} {l m : List α} (h : a = b) (h' : l = m) : a :: l = b :: m := by rw [h, h']
theorem tok_congr {a b : Nat} {l m : List (List AV)} (h : a = b) (h' : l = m) : AV.list (some a) l = AV.list (some b) m := by rw [h, h']
def CnB {α : Type} (T : Ty α) (w : Nat) : Prop := ∀ a, cnC (T.q a) ≤ w * (1 + T.size a)
theorem CnB.str : CnB Ty.str 1 := fun a => by show 1 + 0 ≤ 1 * (1 + _); omega
theorem CnB.int : CnB Ty.int 1 := fun a => by show 1 + 0 ≤ 1 * (1 + _); omega
theorem CnB.bool : CnB Ty.bool 1 := fun a => by show 1 + 0 ≤ 1 * (1 + _); omega
theorem CnB.pair {α β : Type} {T : Ty α} {U : Ty β} {w v : Nat} (h : CnB T w) (g : CnB U v) : CnB (Ty.pair T U) (w + v) := fun a => by
  show cnC (T.q a.1 ++ U.q a.2) ≤ (w + v) * (1 + (T.size a.1 + U.size a.2))
  rw [cnC_append, Nat.add_mul]
  exact Nat.add_le_add (Nat.le_trans (h a.1) (Nat.mul_le_mul_left _ (by omega))) (Nat.le_trans (g a.2) (Nat.mul_le_mul_left _ (by omega)))
theorem CnB.rows {α : Type} {T : Ty α} {w : Nat} (h : CnB T w) : ∀ l : List α, cnLL (l.map T.q) ≤ w * (l.length + listSize T l)
  | [] => Nat.zero_le _
  | a :: l => by
    have h1 := h.rows l
    have h2 := h a
    rw [List.map_cons, cnLL, List.length_cons, listSize]
    refine Nat.le_trans (Nat.add_le_add h2 h1) ?_
    rw [← Nat.mul_add]
    exact Nat.mul_le_mul_left _ (by omega)
theorem CnB.cellsL {α : Type} {T : Ty α} {w : Nat} (h : CnB T w) (t sz : Nat) (l : List α) : cnC [.l t sz (l.map T.q)] ≤ w * (1 + (l.length + listSize T l)) := by
  show cnLL (l.map T.q) + 0 ≤ _
  exact Nat.le_trans (h.rows l) (Nat.mul_le_mul_left _ (by omega))
theorem CnB.list {α : Type} {T : Ty α} {w : Nat} (h : CnB T w) (t : Nat) : CnB (Ty.list t T) w := fun l => h.cellsL t T.sz l
theorem CnB.plain {α : Type} {T : Ty α} {w : Nat} (h : CnB T w) (t : Nat) (h1 h2) : CnB (Ty.plain t T h1 h2) w := fun l => h.cellsL t T.sz l
theorem CnB.l {α : Type} {T : Ty α} {w : Nat} (h : CnB T w) (t sz : Nat) (l : List α) : cn (.l t sz (l.map T.q)) ≤ w * (l.length + listSize T l) := h.rows l
theorem rowsP_tks {α : Type} (T : Ty α) (h : ∀ a, T.fr a = []) (e : ∀ a, T.tk a 0 = oldL (T.q a)) : ∀ l : List α, tks T l 0 = rows T l
  | [] => rfl
  | a :: l => by
    rw [tks, h, e]
    show _ :: tks T l (0 + 0) = _
    rw [Nat.add_zero, rowsP_tks T h e l]; rfl
end Abs
end Go.Proofs.YtoindmahilbalaaGreat
namespace Go.Proofs.YtoindmahilbalaaGreat
open Abs
theorem Abs.ACall.mk_StringS {C : Con} {lend : Bool} {f : Nat} {vs : List AV} {b : List ABox} {fr : Fr} {k : AV → List ABox → Fr → Prop} (ys : List AV) (l : List Str) (h : C.ret f ys (.list (some 0) (strs l)) [(9, 1, l.length)]) (hv : SeesL Sees0 vs ys)
    (hk : k (.list (some fr.length) (strs l)) b (fr ++ [(9, 1, l.length)])) : ACall C lend f vs b fr k := ACall.mkStrs ys l h hv hk
theorem eqStringS.big (l m : List Str) (h : tStrs.size l ≤ 1099511627775) : eqStringS.Ret [.list none (strs l), .list none (strs m)] (.val (.bool (decide (l = m)))) [] := eqStringS.ret l m (by rw [tStrs_size] at h; omega)
end Go.Proofs.YtoindmahilbalaaGreat
namespace Go.Proofs.YtoindmahilbalaaGreat
namespace Abs
def TAt (b : List ABox) (n : Nat) (X Y : Tr) (b' : List ABox) : Prop := ∃ pre post, pre.length = n ∧ b = pre ++ gb X n ++ post ∧ pre ++ gb Y n ++ post = b'
theorem TAt.more {A D A' : List ABox} {n : Nat} {X Y : Tr} (h : TAt A n X Y A') : TAt (A ++ D) n X Y (A' ++ D) := by
  obtain ⟨pre, post, h1, rfl, rfl⟩ := h
  exact ⟨pre, post ++ D, h1, by simp, by simp⟩
end Abs
end Go.Proofs.YtoindmahilbalaaGreat
namespace Go.Proofs.YtoindmahilbalaaGreat
open Abs
def lawExactIsMatch.code : ACode := (q_ (r_ [s 3 (.box (t 0)), s 5 (.box (t 2)), s 6 (.mv (.const (.bool false)))]) (q_ (r_ [s 7 (.mv (i_ 1048576))]) (q_ (r_ [s 13 (a_ 4 3), v_ 14 7, s 15 (.call 9 [(t 13), (t 14)]), v_ 7 15]) (q_ (.seq (r_ [v_ 16 7, s 17 (.bin .lss (t 16) (i_ 0))]) (.cond (t 17) (q_ (r_ [s 6 (.mv (.const (.bool true)))]) .ret) .skip)) (q_ (r_ [v_ 18 1, v_ 19 7, s 20 (.call 10 [(t 18), (t 19)]), v_ 7 20]) (q_ (.seq (r_ [v_ 21 7, s 22 (.bin .lss (t 21) (i_ 0))]) (.cond (t 22) (q_ (r_ [s 6 (.mv (.const (.bool true)))]) .ret) .skip)) (q_ (r_ [s 23 (a_ 3 5), v_ 24 7, s 25 (.call 33 [(t 23), (t 24)]), v_ 7 25]) (q_ (.seq (r_ [v_ 26 7, s 27 (.bin .lss (t 26) (i_ 0))]) (.cond (t 27) (q_ (r_ [s 6 (.mv (.const (.bool true)))]) .ret) .skip)) (q_ (.held [s 28 (a_ 4 3), v_ 30 1, s 32 (a_ 3 5), s 29 (.call 12 [(t 28)]), s 31 (.call 13 [(t 30)])] [s 33 (.call 35 [(t 32)]), s 34 (.call 34 [(t 29), (t 31), (t 33)]), v_ 8 34]) (q_ (r_ [s 35 (a_ 4 3), s 36 (.call 12 [(t 35)]), s 9 (.alloc [(.string (.mk (.mk []))), (.int .i64 (.ofNat 0)), (.slice none 0 0), (.slice none 0 0)]), ⟨none, none, (.store 4 (t 9) (t 36))⟩]) (q_ (r_ [v_ 37 1, s 38 (.call 13 [(t 37)]), v_ 10 38]) (q_ (r_ [s 39 (a_ 3 5), s 40 (.call 35 [(t 39)]), s 11 (.alloc [(.string (.mk (.mk []))), (.slice none 0 0), (.slice none 0 0)]), ⟨none, none, (.store 3 (t 11) (t 40))⟩]) (q_ (r_ [s 41 (a_ 4 9), v_ 42 10, s 43 (a_ 3 11), s 44 (.call 36 [(t 41), (t 42), (t 43)]), v_ 12 44]) (q_ (.seq (r_ [v_ 45 12, v_ 46 8, s 47 (.binb .neq (t 45) (t 46))]) (.cond (t 47) (q_ (r_ [s 6 (.mv (.const (.bool false)))]) .ret) .skip)) (q_ (.seq (.held [s 48 (a_ 4 9), s 49 (a_ 4 3), s 50 (.call 12 [(t 49)])] [s 51 (.call 16 [(t 48), (t 50)]), s 52 (.not (t 51))]) (.cond (t 52) (q_ (r_ [s 6 (.mv (.const (.bool false)))]) .ret) .skip)) (q_ (.seq (r_ [v_ 53 10, v_ 54 1, s 55 (.call 13 [(t 54)]), s 56 (.call 17 [(t 53), (t 55)]), s 57 (.not (t 56))]) (.cond (t 57) (q_ (r_ [s 6 (.mv (.const (.bool false)))]) .ret) .skip)) (q_ (.seq (.held [s 58 (a_ 3 11), s 59 (a_ 3 5), s 60 (.call 35 [(t 59)])] [s 61 (.call 37 [(t 58), (t 60)]), s 62 (.not (t 61))]) (.cond (t 62) (q_ (r_ [s 6 (.mv (.const (.bool false)))]) .ret) .skip)) (q_ (r_ [s 6 (.mv (.const (.bool true)))]) .ret))))))))))))))))))
theorem lawExactIsMatch.ir : IrAt Tryz.prog 6 lawExactIsMatch.code [0, 1, 2, 3, 5, 6, 7, 8, 9, 10, 11, 12] [.tmp 6] Tryz.f6.ntmps := ir_ Tryz.func6
abbrev lawExactIsMatch.RetN (args : List AV) (r : AV) (frs : Fr) : Prop := Abs.Ret false Tryz.prog 6 args r frs
end Go.Proofs.YtoindmahilbalaaGreat
namespace Go.Proofs.YtoindmahilbalaaGreat
open Abs
abbrev VPattern := Str × List Str
instance : DecidableEq VPattern := instDecidableEqProd
def tPattern : Ty VPattern := Ty.pair Ty.str tStrs
theorem tPattern_size (a : VPattern) : tPattern.size a = a.1.length + tStrs.size a.2 := rfl
theorem Abs.ACall.mk_Pattern {C : Con} {lend : Bool} {f : Nat} {vs : List AV} {b : List ABox} {fr : Fr} {k : AV → List ABox → Fr → Prop} (ys : List AV) (a : VPattern) (h : C.ret f ys (.agg (tPattern.tk a 0)) (tPattern.fr a)) (hv : SeesL Sees0 vs ys)
    (hk : k (.agg (tPattern.tk a fr.length)) b (fr ++ tPattern.fr a)) : ACall C lend f vs b fr k := ACall.mkA tPattern ys a h hv hk
theorem toPattern.ret (a : VPattern) (h : tPattern.size a ≤ 1048576) : toPattern.Ret [.agg (oldL (tPattern.q a))] (.agg (tPattern.tk a 0)) (tPattern.fr a) := by
  refine toPattern.ir.of rfl ?_
  rw [tPattern_size] at h
  have hf1 := tStrs_size a.2
  repeat' first
    | (conv => whnf
       first | refine Need.mk ⟨rfl, Nat.le_of_ble_eq_true rfl⟩ ?_ | refine nb_ ?_ | refine FinAgg.keep ?_ | refine Final.mk rfl rfl | refine ACall.mk_StringS _ _ (toStringS.ret _ ?_) (by repeat' first | exact SeesL.nil | refine SeesL.cons ?_ ?_ | exact SeesB.of0 (Sees0.val _) | exact SeesB.of0 (Sees0.str _) | exact SeesB.of0 (Sees0.olds _ _) | exact SeesB.of0 (Sees0.old _) | exact SeesB.of0 (Sees0.oldagg _) | exact SeesB.of0 Sees0.nil | exact Sees0.val _ | exact Sees0.str _ | exact Sees0.olds _ _ | exact Sees0.old _ | exact Sees0.oldagg _ | exact Sees0.nil | exact SeesB.of0 (Sees0.any _) | assumption | exact sees_gv _ _ _ (by assumption) (by first | assumption | exact BoxIn.last _ _ | exact BoxIn.more (BoxIn.last _ _) _) | refine SeesB.agg ?_ | refine Sees0.agg ?_ | exact SeesB.of0 (Sees0.clo SeesL.nil SeesL.nil) | exact Sees0.clo SeesL.nil SeesL.nil | exact SeesB.of0 (Sees0.list rfl) | exact Sees0.list rfl) ?_)
  all_goals first
    | omega
    | (refine congrArg AV.agg ?_
       repeat' first
         | refine cons_congr ?_ ?_
         | refine tok_congr ?_ ?_
         | refine congrArg (tks _ _) ?_
         | rfl
       all_goals (simp [Ty.pair, Ty.str, Ty.int, Ty.bool, Nat.add_assoc, Ty.plain, tStrs]; done))
    | (simp [tPattern, Ty.pair, Ty.str, Ty.int, Ty.bool, List.append_assoc, Nat.add_assoc, Ty.plain, tStrs]; done)
theorem szPattern.ret (f : VPattern) (a : Int) (h0 : 0 ≤ a) (ha : a ≤ 1048576) (hb : tPattern.bd f) :
    szPattern.Ret [.agg (oldL (tPattern.q f)), .val (.int .i64 a)] (.val (.int .i64 (left a (tPattern.size f)))) [] := by
  refine szPattern.ir.of rfl ?_
  have hz := tPattern_size f
  obtain ⟨hb0, hb1⟩ := hb
  have hb0 : f.1.length ≤ 9223372036854775807 := hb0
  obtain ⟨hbl1, hbe1⟩ := hb1
  have hy1 := szT_eq f.2
  by_cases c1 : a < (f.1.length : Int)
  · have e0 : IntKind.i64.wrap (a - (f.1.length : Int)) = a - (f.1.length : Int) := by rw [wrap64 (by omega) (by omega)]
    repeat' first
      | (conv => whnf
         first | refine Need.mk rfl ?_ | refine Fork.decYes (by omega) ?_ | refine FinVal.keep ?_ | refine Final.mk ?_ rfl)
      | refine AV.int_congr ?_
    all_goals first
      | assumption
      | omega
      | exact left_eq (by omega)
  by_cases c2 : a < (f.1.length : Int) + (szT f.2 : Int)
  · have e0 : IntKind.i64.wrap (a - (f.1.length : Int)) = a - (f.1.length : Int) := by rw [wrap64 (by omega) (by omega)]
    have e1 : left (IntKind.i64.wrap (a - (f.1.length : Int))) (szT f.2) = -1 := by rw [e0, left, if_pos (by omega)]
    repeat' first
      | (conv => whnf
         first | refine Need.mk rfl ?_ | refine Fork.decYes (by omega) ?_ | refine Fork.decNo (by omega) ?_ | refine FinVal.keep ?_ | refine Final.mk ?_ rfl | refine ACall.scalA _ _ (szStringS.ret _ _ ?_ ?_ ?_ ?_) rfl ?_)
      | refine AV.int_congr ?_
    all_goals first
      | assumption
      | omega
      | exact left_eq (by omega)
  have e0 : IntKind.i64.wrap (a - (f.1.length : Int)) = a - (f.1.length : Int) := by rw [wrap64 (by omega) (by omega)]
  have e1 : left (IntKind.i64.wrap (a - (f.1.length : Int))) (szT f.2) = a - (f.1.length : Int) - (szT f.2 : Int) := by rw [e0, left, if_neg (by omega)]
  repeat' first
    | (conv => whnf
       first | refine Need.mk rfl ?_ | refine Fork.decNo (by omega) ?_ | refine FinVal.keep ?_ | refine Final.mk ?_ rfl | refine ACall.scalA _ _ (szStringS.ret _ _ ?_ ?_ ?_ ?_) rfl ?_)
    | refine AV.int_congr ?_
  all_goals first
    | assumption
    | omega
    | exact left_eq (by omega)
theorem eqPattern.big (f g : VPattern) (h : tPattern.size f ≤ 1099511627775) : eqPattern.Ret [.agg (oldL (tPattern.q f)), .agg (oldL (tPattern.q g))] (.val (.bool (decide (f = g)))) [] := by
  refine eqPattern.ir.of rfl ?_
  have hz := tPattern_size f
  repeat' first
    | (conv => whnf
       first | refine Fork.sne (fun _ => ?_) (fun _ => ?_) | refine Fork.neg (fun _ => ?_) (fun _ => ?_) | refine FinVal.keep ?_ | refine Final.mk ?_ rfl | refine ACall.scalA _ _ (eqStringS.big _ _ ?_) rfl ?_)
    | refine AV.bool_congr ?_
  all_goals first
    | omega
    | (simp only [tStrs_size, tInts_size] at *; omega)
    | (obtain ⟨x0, x1⟩ := f; obtain ⟨y0, y1⟩ := g; simp_all)
end Go.Proofs.YtoindmahilbalaaGreat
namespace Go.Proofs.YtoindmahilbalaaGreat
open Abs
abbrev VCond := Int × VPattern × Str × Str
instance : DecidableEq VCond := instDecidableEqProd
def tCond : Ty VCond := Ty.pair Ty.int (Ty.pair tPattern (Ty.pair Ty.str Ty.str))
theorem tCond_size (a : VCond) : tCond.size a = 0 + (tPattern.size a.2.1 + (a.2.2.1.length + a.2.2.2.length)) := rfl
def tConds : Ty (List VCond) := Ty.list 116 tCond
theorem tConds_sz (l : List VCond) : tConds.size l = l.length + listSize tCond l := rfl
theorem tCond_get {l : List VCond} {i : Nat} (hi : i < l.length) : l[i]? = some (l.getD i default) := by simp [List.getD, hi]
theorem tCond_le {l : List VCond} {i : Nat} (hi : i < l.length) : tCond.size (l.getD i default) ≤ listSize tCond l := listSize_mem tCond (List.mem_of_getElem? (tCond_get hi))
theorem Abs.ACall.mk_Cond {C : Con} {lend : Bool} {f : Nat} {vs : List AV} {b : List ABox} {fr : Fr} {k : AV → List ABox → Fr → Prop} (ys : List AV) (a : VCond) (h : C.ret f ys (.agg (tCond.tk a 0)) (tCond.fr a)) (hv : SeesL Sees0 vs ys)
    (hk : k (.agg (tCond.tk a fr.length)) b (fr ++ tCond.fr a)) : ACall C lend f vs b fr k := ACall.mkA tCond ys a h hv hk
theorem Abs.ACall.mk_CondS {C : Con} {lend : Bool} {f : Nat} {vs : List AV} {b : List ABox} {fr : Fr} {k : AV → List ABox → Fr → Prop} (ys : List AV) (l : List VCond) (h : C.ret f ys (.list (some (0 + (frs tCond l).length)) (tks tCond l 0)) (tConds.fr l)) (hv : SeesL Sees0 vs ys)
    (hk : k (.list (some (fr.length + (frs tCond l).length)) (tks tCond l fr.length)) b (fr ++ tConds.fr l)) : ACall C lend f vs b fr k :=
  ACall.mkV tConds ys l (fun n => .list (some (n + (frs tCond l).length)) (tks tCond l n)) (fun _ => rfl) h hv hk
theorem toCond.ret (a : VCond) (h : tCond.size a ≤ 1048576) : toCond.Ret [.agg (oldL (tCond.q a))] (.agg (tCond.tk a 0)) (tCond.fr a) := by
  refine toCond.ir.of rfl ?_
  rw [tCond_size] at h
  repeat' first
    | (conv => whnf
       first | refine Need.mk ⟨rfl, Nat.le_of_ble_eq_true rfl⟩ ?_ | refine nb_ ?_ | refine FinAgg.keep ?_ | refine Final.mk rfl rfl | refine ACall.mk_Pattern _ _ (toPattern.ret _ ?_) (by repeat' first | exact SeesL.nil | refine SeesL.cons ?_ ?_ | exact SeesB.of0 (Sees0.val _) | exact SeesB.of0 (Sees0.str _) | exact SeesB.of0 (Sees0.olds _ _) | exact SeesB.of0 (Sees0.old _) | exact SeesB.of0 (Sees0.oldagg _) | exact SeesB.of0 Sees0.nil | exact Sees0.val _ | exact Sees0.str _ | exact Sees0.olds _ _ | exact Sees0.old _ | exact Sees0.oldagg _ | exact Sees0.nil | exact SeesB.of0 (Sees0.any _) | assumption | exact sees_gv _ _ _ (by assumption) (by first | assumption | exact BoxIn.last _ _ | exact BoxIn.more (BoxIn.last _ _) _) | refine SeesB.agg ?_ | refine Sees0.agg ?_ | exact SeesB.of0 (Sees0.clo SeesL.nil SeesL.nil) | exact Sees0.clo SeesL.nil SeesL.nil | exact SeesB.of0 (Sees0.list rfl) | exact Sees0.list rfl) ?_)
  all_goals first
    | omega
    | (refine congrArg AV.agg ?_
       repeat' first
         | refine cons_congr ?_ ?_
         | refine tok_congr ?_ ?_
         | refine congrArg (tks _ _) ?_
         | rfl
       all_goals (simp [Ty.pair, Ty.str, Ty.int, Ty.bool, Nat.add_assoc]; done))
    | (simp [tCond, Ty.pair, Ty.str, Ty.int, Ty.bool, List.append_assoc, Nat.add_assoc]; done)
theorem szCond.ret (f : VCond) (a : Int) (h0 : 0 ≤ a) (ha : a ≤ 1048576) (hb : tCond.bd f) :
    szCond.Ret [.agg (oldL (tCond.q f)), .val (.int .i64 a)] (.val (.int .i64 (left a (tCond.size f)))) [] := by
  refine szCond.ir.of rfl ?_
  have hz := tCond_size f
  obtain ⟨hb0, hb1, hb2, hb3⟩ := hb
  have hb2 : f.2.2.1.length ≤ 9223372036854775807 := hb2
  have hb3 : f.2.2.2.length ≤ 9223372036854775807 := hb3
  by_cases c1 : a < (tPattern.size f.2.1 : Int)
  · have e0 : left a (tPattern.size f.2.1) = -1 := by rw [left, if_pos (by omega)]
    repeat' first
      | (conv => whnf
         first | refine Need.mk rfl ?_ | refine nb_ ?_ | refine Fork.decYes (by omega) ?_ | refine FinVal.keep ?_ | refine Final.mk ?_ rfl | refine ACall.scalA _ _ (szPattern.ret _ _ ?_ ?_ ?_) rfl ?_)
      | refine AV.int_congr ?_
    all_goals first
      | assumption
      | omega
      | exact left_eq (by omega)
  by_cases c2 : a < (tPattern.size f.2.1 : Int) + (f.2.2.1.length : Int)
  · have e0 : left a (tPattern.size f.2.1) = a - (tPattern.size f.2.1 : Int) := by rw [left, if_neg (by omega)]
    have e1 : IntKind.i64.wrap (left a (tPattern.size f.2.1) - (f.2.2.1.length : Int)) = a - (tPattern.size f.2.1 : Int) - (f.2.2.1.length : Int) := by rw [e0, wrap64 (by omega) (by omega)]
    repeat' first
      | (conv => whnf
         first | refine Need.mk rfl ?_ | refine nb_ ?_ | refine Fork.decYes (by omega) ?_ | refine Fork.decNo (by omega) ?_ | refine FinVal.keep ?_ | refine Final.mk ?_ rfl | refine ACall.scalA _ _ (szPattern.ret _ _ ?_ ?_ ?_) rfl ?_)
      | refine AV.int_congr ?_
    all_goals first
      | assumption
      | omega
      | exact left_eq (by omega)
  by_cases c3 : a < (tPattern.size f.2.1 : Int) + (f.2.2.1.length : Int) + (f.2.2.2.length : Int)
  · have e0 : left a (tPattern.size f.2.1) = a - (tPattern.size f.2.1 : Int) := by rw [left, if_neg (by omega)]
    have e1 : IntKind.i64.wrap (left a (tPattern.size f.2.1) - (f.2.2.1.length : Int)) = a - (tPattern.size f.2.1 : Int) - (f.2.2.1.length : Int) := by rw [e0, wrap64 (by omega) (by omega)]
    have e2 : IntKind.i64.wrap (IntKind.i64.wrap (left a (tPattern.size f.2.1) - (f.2.2.1.length : Int)) - (f.2.2.2.length : Int)) = a - (tPattern.size f.2.1 : Int) - (f.2.2.1.length : Int) - (f.2.2.2.length : Int) := by rw [e1, wrap64 (by omega) (by omega)]
    repeat' first
      | (conv => whnf
         first | refine Need.mk rfl ?_ | refine nb_ ?_ | refine Fork.decYes (by omega) ?_ | refine Fork.decNo (by omega) ?_ | refine FinVal.keep ?_ | refine Final.mk ?_ rfl | refine ACall.scalA _ _ (szPattern.ret _ _ ?_ ?_ ?_) rfl ?_)
      | refine AV.int_congr ?_
    all_goals first
      | assumption
      | omega
      | exact left_eq (by omega)
  have e0 : left a (tPattern.size f.2.1) = a - (tPattern.size f.2.1 : Int) := by rw [left, if_neg (by omega)]
  have e1 : IntKind.i64.wrap (left a (tPattern.size f.2.1) - (f.2.2.1.length : Int)) = a - (tPattern.size f.2.1 : Int) - (f.2.2.1.length : Int) := by rw [e0, wrap64 (by omega) (by omega)]
  have e2 : IntKind.i64.wrap (IntKind.i64.wrap (left a (tPattern.size f.2.1) - (f.2.2.1.length : Int)) - (f.2.2.2.length : Int)) = a - (tPattern.size f.2.1 : Int) - (f.2.2.1.length : Int) - (f.2.2.2.length : Int) := by rw [e1, wrap64 (by omega) (by omega)]
  repeat' first
    | (conv => whnf
       first | refine Need.mk rfl ?_ | refine nb_ ?_ | refine Fork.decNo (by omega) ?_ | refine FinVal.keep ?_ | refine Final.mk ?_ rfl | refine ACall.scalA _ _ (szPattern.ret _ _ ?_ ?_ ?_) rfl ?_)
    | refine AV.int_congr ?_
  all_goals first
    | assumption
    | omega
    | exact left_eq (by omega)
theorem eqCond.big (f g : VCond) (h : tCond.size f ≤ 1099511627775) : eqCond.Ret [.agg (oldL (tCond.q f)), .agg (oldL (tCond.q g))] (.val (.bool (decide (f = g)))) [] := by
  refine eqCond.ir.of rfl ?_
  have hz := tCond_size f
  repeat' first
    | (conv => whnf
       first | refine Need.mk rfl ?_ | refine nb_ ?_ | refine Fork.bne (fun _ => ?_) (fun _ => ?_) | refine Fork.sne (fun _ => ?_) (fun _ => ?_) | refine Fork.neg (fun _ => ?_) (fun _ => ?_) | refine FinVal.keep ?_ | refine Final.mk ?_ rfl | refine ACall.scalA _ _ (eqPattern.big _ _ ?_) rfl ?_)
    | refine AV.bool_congr ?_
  all_goals first
    | omega
    | (simp only [tStrs_size, tInts_size] at *; omega)
    | (obtain ⟨x0, ⟨x10, x11⟩, x2, x3⟩ := f; obtain ⟨y0, ⟨y10, y11⟩, y2, y3⟩ := g; simp_all)
theorem toCondS.ret (l : List VCond) (h : tConds.size l ≤ 1048576) : toCondS.Ret [.list none (rows tCond l)] (.list (some (0 + (frs tCond l).length)) (tks tCond l 0)) (tConds.fr l) := by
  refine toCondS.ir.of rfl ?_
  rw [tConds_sz] at h
  repeat' first
    | (conv => whnf
       first | refine Need.fin ?_)
  refine ALoop.mk Nat (fun i => ⟨[(0, .list none (rows tCond l)), (3, .bsl 0 l.length), (4, .val (.int .i64 i))], [.cells (.row 116 5) (part [.val (.int .i64 0), .str [], .val (.slice none 0 0), .str [], .str []] (tks tCond l 0) i)], frs tCond (l.take i)⟩) (fun i => i ≤ l.length) (fun i => l.length - i) ⟨0, Nat.zero_le _, ?_⟩ (fun i hi => ?_)
  · repeat' first
      | exact trivial | refine wl_ ?_ ?_ ?_ ?_ | refine And.intro ?_ ?_ | with_reducible rfl | exact ble_ | refine AV.int_congr ?_ | refine AV.list_congr ?_ | refine AV.bsl_congr ?_ ?_ | (apply rfl)
    · simp
    · simp only [List.nil_append, List.length_cons, List.length_nil, List.take_succ_cons, List.take_zero]
      rw [part_made (xs := tks tCond l 0) (sz := 5) rfl (by decide) (by simp [length_tks])]; rfl
  repeat' first
    | (conv => whnf
       first | refine Need.mk rfl ?_ | refine nb_ ?_ | refine Need.fin ?_ | refine Need.mk ?_ ?_ | refine Ix.mapF (fun _ => rfl) ?_ | refine Fork.dec (fun _ => ?_) (fun _ => ?_) | refine Round.mk ?_ | refine ACall.mk_Cond _ _ (toCond.ret _ ?_) (by repeat' first | exact SeesL.nil | refine SeesL.cons ?_ ?_ | exact SeesB.of0 (Sees0.val _) | exact SeesB.of0 (Sees0.str _) | exact SeesB.of0 (Sees0.olds _ _) | exact SeesB.of0 (Sees0.old _) | exact SeesB.of0 (Sees0.oldagg _) | exact SeesB.of0 Sees0.nil | exact Sees0.val _ | exact Sees0.str _ | exact Sees0.olds _ _ | exact Sees0.old _ | exact Sees0.oldagg _ | exact Sees0.nil | exact SeesB.of0 (Sees0.any _) | assumption | exact sees_gv _ _ _ (by assumption) (by first | assumption | exact BoxIn.last _ _ | exact BoxIn.more (BoxIn.last _ _) _) | refine SeesB.agg ?_ | refine Sees0.agg ?_ | exact SeesB.of0 (Sees0.clo SeesL.nil SeesL.nil) | exact Sees0.clo SeesL.nil SeesL.nil | exact SeesB.of0 (Sees0.list rfl) | exact Sees0.list rfl) ?_)
  · rename_i h1
    rw [length_rows] at h1
    have := listSize_mem tCond (List.mem_of_getElem? (tCond_get (l := l) (i := i) (by omega)))
    rw [Int.toNat_natCast]; omega
  · rename_i h1
    rw [length_rows] at h1
    rw [part_len (sz := 5) rfl (tks_sz tCond l 0) (by rw [length_tks]; exact hi), Int.toNat_natCast, length_tks]
    exact ⟨rfl, by omega⟩
  · rename_i h1
    rw [length_rows] at h1
    refine ⟨i + 1, by omega, ?_, by omega⟩
    repeat' first
      | exact trivial | refine wl_ ?_ ?_ ?_ ?_ | refine And.intro ?_ ?_ | with_reducible rfl | exact ble_ | refine AV.int_congr ?_ | refine AV.list_congr ?_ | refine AV.bsl_congr ?_ ?_
    · rw [wrap64 (by omega) (by omega)]; rfl
    · have := part_set (z := [.val (.int .i64 0), .str [], .val (.slice none 0 0), .str [], .str []]) (sz := 5) rfl (tks_sz tCond l 0) (tks_get tCond 0 (tCond_get (l := l) (i := i) (by omega)))
      rw [Nat.zero_add] at this
      simp only [List.set_cons_zero, List.take_succ_cons, List.take_zero, List.length_cons, List.length_nil, Int.toNat_natCast, this]
    · show frs tCond (l.take i) ++ tCond.fr (l.getD (i : Int).toNat default) = frs tCond (l.take (i + 1))
      rw [Int.toNat_natCast, take_succ' default (by omega), frs_append]; simp [frs]
  · rename_i h1
    rw [length_rows] at h1
    conv => whnf
    have : i = l.length := by omega
    subst this
    have hall := part_all [.val (.int .i64 0), .str [], .val (.slice none 0 0), .str [], .str []] (tks tCond l 0)
    rw [length_tks] at hall
    refine FreezeD.flat (Freeze.mk (tks tCond l 0) _ 116 5 rfl hall (length_tks _ _ _) (tks_sz tCond l 0) (fun c hc => ?_) ?_)
    · rw [hall] at hc; exact tks_nr tCond l 0 c hc
    · refine Final.mk ?_ ?_
      · rw [List.take_length, Nat.zero_add]
      · rw [List.take_length]; rfl
theorem szCondS.ret (l : List VCond) (a : Int) (h0 : 0 ≤ a) (ha : a ≤ 1048576) (hb : tConds.bd l) :
    szCondS.Ret [.list none (rows tCond l), .val (.int .i64 a)] (.val (.int .i64 (left a (tConds.size l)))) [] := by
  refine szCondS.ir.of rfl ?_
  obtain ⟨hl, hb⟩ := hb
  have hw : IntKind.i64.wrap (a - ((rows tCond l).length : Int)) = a - l.length := by rw [length_rows]; exact wrap64 (by omega) (by omega)
  have hz := tConds_sz l
  repeat' first
    | (conv => whnf
       first | refine Need.mk rfl ?_ | refine Fork.dec (fun _ => ?_) (fun _ => ?_) | refine FinVal.keep ?_ | refine Final.mk ?_ rfl)
    | refine AV.int_congr ?_
  · rename_i h
    rw [hw] at h
    rw [left, if_pos (by omega)]
  rename_i h
  rw [hw] at h
  skip
  refine ALoop.mk Nat (fun i => ⟨[(0, .list none (rows tCond l)), (1, .val (.int .i64 (a - l.length - listSize tCond (l.take i)))), (5, .val (.int .i64 i))], [], []⟩) (fun i => i ≤ l.length ∧ (0 : Int) ≤ a - l.length - listSize tCond (l.take i)) (fun i => l.length - i) ⟨0, ⟨Nat.zero_le _, by simp [listSize]; omega⟩, ?_⟩ (fun i hi => ?_)
  · repeat' first
      | exact trivial | refine wl_ ?_ ?_ ?_ ?_ | refine And.intro ?_ ?_ | with_reducible rfl | exact ble_ | refine AV.int_congr ?_ | refine AV.list_congr ?_ | (apply rfl)
    rw [hw]; simp [listSize]
  obtain ⟨hp1, hp2⟩ := hi
  have hle := listSize_take_le tCond l (i + 1)
  have hbi : i < l.length → tCond.bd (l.getD i default) := fun h => hb _ (List.mem_of_getElem? (tCond_get h))
  have hsz : i < l.length → listSize tCond (l.take (i + 1)) = listSize tCond (l.take i) + tCond.size (l.getD i default) := fun h => listSize_take_succ tCond (tCond_get h)
  repeat' first
    | (conv => whnf
       first | refine Need.mk rfl ?_ | refine nb_ ?_ | refine Ix.mapF (fun _ => rfl) ?_ | refine Fork.dec (fun _ => ?_) (fun _ => ?_) | refine Round.mk ?_ | refine FinVal.keep ?_ | refine Final.mk ?_ rfl | refine ACall.scalA _ _ (szCond.ret _ _ ?_ ?_ ?_) rfl ?_)
    | refine AV.int_congr ?_
  · exact hp2
  · omega
  · rename_i h1
    rw [length_rows] at h1
    rw [Int.toNat_natCast]; exact hbi (by omega)
  · rename_i h1 h2
    rw [length_rows] at h1
    rw [Int.toNat_natCast] at h2
    have := hsz (by omega)
    unfold left at h2 ⊢
    split at h2
    · rw [if_pos (by omega)]
    · omega
  · rename_i h1 h2
    rw [length_rows] at h1
    rw [Int.toNat_natCast] at h2
    have := hsz (by omega)
    have e : left (a - ↑l.length - ↑(listSize tCond (l.take i))) (tCond.size (l.getD i default)) = a - ↑l.length - ↑(listSize tCond (l.take (i + 1))) := by
      unfold left at h2 ⊢
      split at h2
      · omega
      · rw [if_neg ‹_›]; omega
    refine ⟨i + 1, ⟨by omega, ?_⟩, ?_, by omega⟩
    · rw [← e]; omega
    · repeat' first
        | exact trivial | refine wl_ ?_ ?_ ?_ ?_ | refine And.intro ?_ ?_ | with_reducible rfl | exact ble_ | refine AV.int_congr ?_ | refine AV.list_congr ?_ | (apply rfl)
      · rw [Int.toNat_natCast]; exact e
      · rw [wrap64 (by omega) (by omega)]; rfl
  · rename_i h1
    rw [length_rows] at h1
    rw [List.take_of_length_le (by omega)] at hp2 ⊢
    rw [left, if_neg (by omega)]; omega
theorem eqCondS.big (l m : List VCond) (h : tConds.size l ≤ 1099511627775) : eqCondS.Ret [.list none (rows tCond l), .list none (rows tCond m)] (.val (.bool (decide (l = m)))) [] := by
  refine eqCondS.ir.of rfl ?_
  rw [tConds_sz] at h
  repeat' first
    | (conv => whnf
       first | refine Need.mk rfl ?_ | refine Fork.bne (fun _ => ?_) (fun _ => ?_) | refine FinVal.keep ?_ | refine Final.mk ?_ rfl)
    | refine AV.bool_congr ?_
  · rename_i h
    rw [length_rows, length_rows] at h
    have h3 : ¬ l = m := fun e => h (by rw [e])
    simp [h3]
  rename_i h
  rw [length_rows, length_rows] at h
  have h : l.length = m.length := by omega
  skip
  refine ALoop.mk Nat (fun i => ⟨[(0, .list none (rows tCond l)), (1, .list none (rows tCond m)), (5, .val (.int .i64 i))], [], []⟩) (fun i => i ≤ l.length ∧ l.take i = m.take i) (fun i => l.length - i) ⟨0, ⟨Nat.zero_le _, rfl⟩, ?_⟩ (fun i hi => ?_)
  · repeat' first
      | exact trivial | refine wl_ ?_ ?_ ?_ ?_ | refine And.intro ?_ ?_ | with_reducible rfl | exact ble_ | refine AV.int_congr ?_ | refine AV.list_congr ?_ | (apply rfl)
  repeat' first
    | (conv => whnf
       first | refine Need.mk rfl ?_ | refine nb_ ?_ | refine Ix.mapF (fun _ => rfl) ?_ | refine Fork.dec (fun _ => ?_) (fun _ => ?_) | refine Fork.neg (fun _ => ?_) (fun _ => ?_) | refine Round.mk ?_ | refine FinVal.keep ?_ | refine Final.mk ?_ rfl | refine AQCall.mkA _ _ (fun hg => eqCond.big _ _ ?_) rfl ?_)
    | refine AV.bool_congr ?_
  · rename_i h1
    rw [length_rows] at h1
    have := listSize_mem tCond (List.mem_of_getElem? (tCond_get (l := l) (i := i) (by omega)))
    rw [Int.toNat_natCast]; omega
  · rename_i h1 h2
    have h3 : ¬ l = m := fun e => of_decide_eq_false h2 (by rw [e])
    simp [h3]
  · rename_i h1 h2
    rw [length_rows] at h1
    rw [Int.toNat_natCast] at h2
    refine ⟨i + 1, ⟨by omega, ?_⟩, ?_, by omega⟩
    · rw [take_succ' default (by omega), take_succ' (l := m) default (by omega), hi.2, of_decide_eq_true h2]
    · repeat' first
        | exact trivial | refine wl_ ?_ ?_ ?_ ?_ | refine And.intro ?_ ?_ | with_reducible rfl | exact ble_ | refine AV.int_congr ?_ | refine AV.list_congr ?_ | (apply rfl)
      rw [wrap64 (by omega) (by omega)]; rfl
  · rename_i h1
    rw [length_rows] at h1
    have h2 := hi.2
    rw [List.take_of_length_le (by omega), List.take_of_length_le (by omega)] at h2
    simp [h2]
end Go.Proofs.YtoindmahilbalaaGreat
namespace Go.Proofs.YtoindmahilbalaaGreat
open Abs
abbrev VAction := Int × VPattern
instance : DecidableEq VAction := instDecidableEqProd
def tAction : Ty VAction := Ty.pair Ty.int tPattern
theorem tAction_size (a : VAction) : tAction.size a = 0 + tPattern.size a.2 := rfl
def tActions : Ty (List VAction) := Ty.list 123 tAction
theorem tActions_sz (l : List VAction) : tActions.size l = l.length + listSize tAction l := rfl
theorem tAction_get {l : List VAction} {i : Nat} (hi : i < l.length) : l[i]? = some (l.getD i default) := by simp [List.getD, hi]
theorem tAction_le {l : List VAction} {i : Nat} (hi : i < l.length) : tAction.size (l.getD i default) ≤ listSize tAction l := listSize_mem tAction (List.mem_of_getElem? (tAction_get hi))
theorem Abs.ACall.mk_Action {C : Con} {lend : Bool} {f : Nat} {vs : List AV} {b : List ABox} {fr : Fr} {k : AV → List ABox → Fr → Prop} (ys : List AV) (a : VAction) (h : C.ret f ys (.agg (tAction.tk a 0)) (tAction.fr a)) (hv : SeesL Sees0 vs ys)
    (hk : k (.agg (tAction.tk a fr.length)) b (fr ++ tAction.fr a)) : ACall C lend f vs b fr k := ACall.mkA tAction ys a h hv hk
theorem Abs.ACall.mk_ActionS {C : Con} {lend : Bool} {f : Nat} {vs : List AV} {b : List ABox} {fr : Fr} {k : AV → List ABox → Fr → Prop} (ys : List AV) (l : List VAction) (h : C.ret f ys (.list (some (0 + (frs tAction l).length)) (tks tAction l 0)) (tActions.fr l)) (hv : SeesL Sees0 vs ys)
    (hk : k (.list (some (fr.length + (frs tAction l).length)) (tks tAction l fr.length)) b (fr ++ tActions.fr l)) : ACall C lend f vs b fr k :=
  ACall.mkV tActions ys l (fun n => .list (some (n + (frs tAction l).length)) (tks tAction l n)) (fun _ => rfl) h hv hk
theorem toAction.ret (a : VAction) (h : tAction.size a ≤ 1048576) : toAction.Ret [.agg (oldL (tAction.q a))] (.agg (tAction.tk a 0)) (tAction.fr a) := by
  refine toAction.ir.of rfl ?_
  rw [tAction_size] at h
  repeat' first
    | (conv => whnf
       first | refine Need.mk ⟨rfl, Nat.le_of_ble_eq_true rfl⟩ ?_ | refine nb_ ?_ | refine FinAgg.keep ?_ | refine Final.mk rfl rfl | refine ACall.mk_Pattern _ _ (toPattern.ret _ ?_) (by repeat' first | exact SeesL.nil | refine SeesL.cons ?_ ?_ | exact SeesB.of0 (Sees0.val _) | exact SeesB.of0 (Sees0.str _) | exact SeesB.of0 (Sees0.olds _ _) | exact SeesB.of0 (Sees0.old _) | exact SeesB.of0 (Sees0.oldagg _) | exact SeesB.of0 Sees0.nil | exact Sees0.val _ | exact Sees0.str _ | exact Sees0.olds _ _ | exact Sees0.old _ | exact Sees0.oldagg _ | exact Sees0.nil | exact SeesB.of0 (Sees0.any _) | assumption | exact sees_gv _ _ _ (by assumption) (by first | assumption | exact BoxIn.last _ _ | exact BoxIn.more (BoxIn.last _ _) _) | refine SeesB.agg ?_ | refine Sees0.agg ?_ | exact SeesB.of0 (Sees0.clo SeesL.nil SeesL.nil) | exact Sees0.clo SeesL.nil SeesL.nil | exact SeesB.of0 (Sees0.list rfl) | exact Sees0.list rfl) ?_)
  all_goals first
    | omega
    | (refine congrArg AV.agg ?_
       repeat' first
         | refine cons_congr ?_ ?_
         | refine tok_congr ?_ ?_
         | refine congrArg (tks _ _) ?_
         | rfl
       all_goals (simp [Ty.pair, Ty.str, Ty.int, Ty.bool, Nat.add_assoc]; done))
    | (simp [tAction, Ty.pair, Ty.str, Ty.int, Ty.bool, List.append_assoc, Nat.add_assoc]; done)
theorem szAction.ret (f : VAction) (a : Int) (h0 : 0 ≤ a) (ha : a ≤ 1048576) (hb : tAction.bd f) :
    szAction.Ret [.agg (oldL (tAction.q f)), .val (.int .i64 a)] (.val (.int .i64 (left a (tAction.size f)))) [] := by
  refine szAction.ir.of rfl ?_
  have hz := tAction_size f
  obtain ⟨hb0, hb1⟩ := hb
  by_cases c1 : a < (tPattern.size f.2 : Int)
  · have e0 : left a (tPattern.size f.2) = -1 := by rw [left, if_pos (by omega)]
    repeat' first
      | (conv => whnf
         first | refine Need.mk rfl ?_ | refine nb_ ?_ | refine Fork.decYes (by omega) ?_ | refine FinVal.keep ?_ | refine Final.mk ?_ rfl | refine ACall.scalA _ _ (szPattern.ret _ _ ?_ ?_ ?_) rfl ?_)
      | refine AV.int_congr ?_
    all_goals first
      | assumption
      | omega
      | exact left_eq (by omega)
  have e0 : left a (tPattern.size f.2) = a - (tPattern.size f.2 : Int) := by rw [left, if_neg (by omega)]
  repeat' first
    | (conv => whnf
       first | refine Need.mk rfl ?_ | refine nb_ ?_ | refine Fork.decNo (by omega) ?_ | refine FinVal.keep ?_ | refine Final.mk ?_ rfl | refine ACall.scalA _ _ (szPattern.ret _ _ ?_ ?_ ?_) rfl ?_)
    | refine AV.int_congr ?_
  all_goals first
    | assumption
    | omega
    | exact left_eq (by omega)
theorem eqAction.big (f g : VAction) (h : tAction.size f ≤ 1099511627775) : eqAction.Ret [.agg (oldL (tAction.q f)), .agg (oldL (tAction.q g))] (.val (.bool (decide (f = g)))) [] := by
  refine eqAction.ir.of rfl ?_
  have hz := tAction_size f
  repeat' first
    | (conv => whnf
       first | refine Need.mk rfl ?_ | refine nb_ ?_ | refine Fork.bne (fun _ => ?_) (fun _ => ?_) | refine Fork.neg (fun _ => ?_) (fun _ => ?_) | refine FinVal.keep ?_ | refine Final.mk ?_ rfl | refine ACall.scalA _ _ (eqPattern.big _ _ ?_) rfl ?_)
    | refine AV.bool_congr ?_
  all_goals first
    | omega
    | (simp only [tStrs_size, tInts_size] at *; omega)
    | (obtain ⟨x0, ⟨x10, x11⟩⟩ := f; obtain ⟨y0, ⟨y10, y11⟩⟩ := g; simp_all)
theorem toActionS.ret (l : List VAction) (h : tActions.size l ≤ 1048576) : toActionS.Ret [.list none (rows tAction l)] (.list (some (0 + (frs tAction l).length)) (tks tAction l 0)) (tActions.fr l) := by
  refine toActionS.ir.of rfl ?_
  rw [tActions_sz] at h
  repeat' first
    | (conv => whnf
       first | refine Need.fin ?_)
  refine ALoop.mk Nat (fun i => ⟨[(0, .list none (rows tAction l)), (3, .bsl 0 l.length), (4, .val (.int .i64 i))], [.cells (.row 123 3) (part [.val (.int .i64 0), .str [], .val (.slice none 0 0)] (tks tAction l 0) i)], frs tAction (l.take i)⟩) (fun i => i ≤ l.length) (fun i => l.length - i) ⟨0, Nat.zero_le _, ?_⟩ (fun i hi => ?_)
  · repeat' first
      | exact trivial | refine wl_ ?_ ?_ ?_ ?_ | refine And.intro ?_ ?_ | with_reducible rfl | exact ble_ | refine AV.int_congr ?_ | refine AV.list_congr ?_ | refine AV.bsl_congr ?_ ?_ | (apply rfl)
    · simp
    · simp only [List.nil_append, List.length_cons, List.length_nil, List.take_succ_cons, List.take_zero]
      rw [part_made (xs := tks tAction l 0) (sz := 3) rfl (by decide) (by simp [length_tks])]; rfl
  repeat' first
    | (conv => whnf
       first | refine Need.mk rfl ?_ | refine nb_ ?_ | refine Need.fin ?_ | refine Need.mk ?_ ?_ | refine Ix.mapF (fun _ => rfl) ?_ | refine Fork.dec (fun _ => ?_) (fun _ => ?_) | refine Round.mk ?_ | refine ACall.mk_Action _ _ (toAction.ret _ ?_) (by repeat' first | exact SeesL.nil | refine SeesL.cons ?_ ?_ | exact SeesB.of0 (Sees0.val _) | exact SeesB.of0 (Sees0.str _) | exact SeesB.of0 (Sees0.olds _ _) | exact SeesB.of0 (Sees0.old _) | exact SeesB.of0 (Sees0.oldagg _) | exact SeesB.of0 Sees0.nil | exact Sees0.val _ | exact Sees0.str _ | exact Sees0.olds _ _ | exact Sees0.old _ | exact Sees0.oldagg _ | exact Sees0.nil | exact SeesB.of0 (Sees0.any _) | assumption | exact sees_gv _ _ _ (by assumption) (by first | assumption | exact BoxIn.last _ _ | exact BoxIn.more (BoxIn.last _ _) _) | refine SeesB.agg ?_ | refine Sees0.agg ?_ | exact SeesB.of0 (Sees0.clo SeesL.nil SeesL.nil) | exact Sees0.clo SeesL.nil SeesL.nil | exact SeesB.of0 (Sees0.list rfl) | exact Sees0.list rfl) ?_)
  · rename_i h1
    rw [length_rows] at h1
    have := listSize_mem tAction (List.mem_of_getElem? (tAction_get (l := l) (i := i) (by omega)))
    rw [Int.toNat_natCast]; omega
  · rename_i h1
    rw [length_rows] at h1
    rw [part_len (sz := 3) rfl (tks_sz tAction l 0) (by rw [length_tks]; exact hi), Int.toNat_natCast, length_tks]
    exact ⟨rfl, by omega⟩
  · rename_i h1
    rw [length_rows] at h1
    refine ⟨i + 1, by omega, ?_, by omega⟩
    repeat' first
      | exact trivial | refine wl_ ?_ ?_ ?_ ?_ | refine And.intro ?_ ?_ | with_reducible rfl | exact ble_ | refine AV.int_congr ?_ | refine AV.list_congr ?_ | refine AV.bsl_congr ?_ ?_
    · rw [wrap64 (by omega) (by omega)]; rfl
    · have := part_set (z := [.val (.int .i64 0), .str [], .val (.slice none 0 0)]) (sz := 3) rfl (tks_sz tAction l 0) (tks_get tAction 0 (tAction_get (l := l) (i := i) (by omega)))
      rw [Nat.zero_add] at this
      simp only [List.set_cons_zero, List.take_succ_cons, List.take_zero, List.length_cons, List.length_nil, Int.toNat_natCast, this]
    · show frs tAction (l.take i) ++ tAction.fr (l.getD (i : Int).toNat default) = frs tAction (l.take (i + 1))
      rw [Int.toNat_natCast, take_succ' default (by omega), frs_append]; simp [frs]
  · rename_i h1
    rw [length_rows] at h1
    conv => whnf
    have : i = l.length := by omega
    subst this
    have hall := part_all [.val (.int .i64 0), .str [], .val (.slice none 0 0)] (tks tAction l 0)
    rw [length_tks] at hall
    refine FreezeD.flat (Freeze.mk (tks tAction l 0) _ 123 3 rfl hall (length_tks _ _ _) (tks_sz tAction l 0) (fun c hc => ?_) ?_)
    · rw [hall] at hc; exact tks_nr tAction l 0 c hc
    · refine Final.mk ?_ ?_
      · rw [List.take_length, Nat.zero_add]
      · rw [List.take_length]; rfl
theorem szActionS.ret (l : List VAction) (a : Int) (h0 : 0 ≤ a) (ha : a ≤ 1048576) (hb : tActions.bd l) :
    szActionS.Ret [.list none (rows tAction l), .val (.int .i64 a)] (.val (.int .i64 (left a (tActions.size l)))) [] := by
  refine szActionS.ir.of rfl ?_
  obtain ⟨hl, hb⟩ := hb
  have hw : IntKind.i64.wrap (a - ((rows tAction l).length : Int)) = a - l.length := by rw [length_rows]; exact wrap64 (by omega) (by omega)
  have hz := tActions_sz l
  repeat' first
    | (conv => whnf
       first | refine Need.mk rfl ?_ | refine Fork.dec (fun _ => ?_) (fun _ => ?_) | refine FinVal.keep ?_ | refine Final.mk ?_ rfl)
    | refine AV.int_congr ?_
  · rename_i h
    rw [hw] at h
    rw [left, if_pos (by omega)]
  rename_i h
  rw [hw] at h
  skip
  refine ALoop.mk Nat (fun i => ⟨[(0, .list none (rows tAction l)), (1, .val (.int .i64 (a - l.length - listSize tAction (l.take i)))), (5, .val (.int .i64 i))], [], []⟩) (fun i => i ≤ l.length ∧ (0 : Int) ≤ a - l.length - listSize tAction (l.take i)) (fun i => l.length - i) ⟨0, ⟨Nat.zero_le _, by simp [listSize]; omega⟩, ?_⟩ (fun i hi => ?_)
  · repeat' first
      | exact trivial | refine wl_ ?_ ?_ ?_ ?_ | refine And.intro ?_ ?_ | with_reducible rfl | exact ble_ | refine AV.int_congr ?_ | refine AV.list_congr ?_ | (apply rfl)
    rw [hw]; simp [listSize]
  obtain ⟨hp1, hp2⟩ := hi
  have hle := listSize_take_le tAction l (i + 1)
  have hbi : i < l.length → tAction.bd (l.getD i default) := fun h => hb _ (List.mem_of_getElem? (tAction_get h))
  have hsz : i < l.length → listSize tAction (l.take (i + 1)) = listSize tAction (l.take i) + tAction.size (l.getD i default) := fun h => listSize_take_succ tAction (tAction_get h)
  repeat' first
    | (conv => whnf
       first | refine Need.mk rfl ?_ | refine nb_ ?_ | refine Ix.mapF (fun _ => rfl) ?_ | refine Fork.dec (fun _ => ?_) (fun _ => ?_) | refine Round.mk ?_ | refine FinVal.keep ?_ | refine Final.mk ?_ rfl | refine ACall.scalA _ _ (szAction.ret _ _ ?_ ?_ ?_) rfl ?_)
    | refine AV.int_congr ?_
  · exact hp2
  · omega
  · rename_i h1
    rw [length_rows] at h1
    rw [Int.toNat_natCast]; exact hbi (by omega)
  · rename_i h1 h2
    rw [length_rows] at h1
    rw [Int.toNat_natCast] at h2
    have := hsz (by omega)
    unfold left at h2 ⊢
    split at h2
    · rw [if_pos (by omega)]
    · omega
  · rename_i h1 h2
    rw [length_rows] at h1
    rw [Int.toNat_natCast] at h2
    have := hsz (by omega)
    have e : left (a - ↑l.length - ↑(listSize tAction (l.take i))) (tAction.size (l.getD i default)) = a - ↑l.length - ↑(listSize tAction (l.take (i + 1))) := by
      unfold left at h2 ⊢
      split at h2
      · omega
      · rw [if_neg ‹_›]; omega
    refine ⟨i + 1, ⟨by omega, ?_⟩, ?_, by omega⟩
    · rw [← e]; omega
    · repeat' first
        | exact trivial | refine wl_ ?_ ?_ ?_ ?_ | refine And.intro ?_ ?_ | with_reducible rfl | exact ble_ | refine AV.int_congr ?_ | refine AV.list_congr ?_ | (apply rfl)
      · rw [Int.toNat_natCast]; exact e
      · rw [wrap64 (by omega) (by omega)]; rfl
  · rename_i h1
    rw [length_rows] at h1
    rw [List.take_of_length_le (by omega)] at hp2 ⊢
    rw [left, if_neg (by omega)]; omega
theorem eqActionS.big (l m : List VAction) (h : tActions.size l ≤ 1099511627775) : eqActionS.Ret [.list none (rows tAction l), .list none (rows tAction m)] (.val (.bool (decide (l = m)))) [] := by
  refine eqActionS.ir.of rfl ?_
  rw [tActions_sz] at h
  repeat' first
    | (conv => whnf
       first | refine Need.mk rfl ?_ | refine Fork.bne (fun _ => ?_) (fun _ => ?_) | refine FinVal.keep ?_ | refine Final.mk ?_ rfl)
    | refine AV.bool_congr ?_
  · rename_i h
    rw [length_rows, length_rows] at h
    have h3 : ¬ l = m := fun e => h (by rw [e])
    simp [h3]
  rename_i h
  rw [length_rows, length_rows] at h
  have h : l.length = m.length := by omega
  skip
  refine ALoop.mk Nat (fun i => ⟨[(0, .list none (rows tAction l)), (1, .list none (rows tAction m)), (5, .val (.int .i64 i))], [], []⟩) (fun i => i ≤ l.length ∧ l.take i = m.take i) (fun i => l.length - i) ⟨0, ⟨Nat.zero_le _, rfl⟩, ?_⟩ (fun i hi => ?_)
  · repeat' first
      | exact trivial | refine wl_ ?_ ?_ ?_ ?_ | refine And.intro ?_ ?_ | with_reducible rfl | exact ble_ | refine AV.int_congr ?_ | refine AV.list_congr ?_ | (apply rfl)
  repeat' first
    | (conv => whnf
       first | refine Need.mk rfl ?_ | refine nb_ ?_ | refine Ix.mapF (fun _ => rfl) ?_ | refine Fork.dec (fun _ => ?_) (fun _ => ?_) | refine Fork.neg (fun _ => ?_) (fun _ => ?_) | refine Round.mk ?_ | refine FinVal.keep ?_ | refine Final.mk ?_ rfl | refine AQCall.mkA _ _ (fun hg => eqAction.big _ _ ?_) rfl ?_)
    | refine AV.bool_congr ?_
  · rename_i h1
    rw [length_rows] at h1
    have := listSize_mem tAction (List.mem_of_getElem? (tAction_get (l := l) (i := i) (by omega)))
    rw [Int.toNat_natCast]; omega
  · rename_i h1 h2
    have h3 : ¬ l = m := fun e => of_decide_eq_false h2 (by rw [e])
    simp [h3]
  · rename_i h1 h2
    rw [length_rows] at h1
    rw [Int.toNat_natCast] at h2
    refine ⟨i + 1, ⟨by omega, ?_⟩, ?_, by omega⟩
    · rw [take_succ' default (by omega), take_succ' (l := m) default (by omega), hi.2, of_decide_eq_true h2]
    · repeat' first
        | exact trivial | refine wl_ ?_ ?_ ?_ ?_ | refine And.intro ?_ ?_ | with_reducible rfl | exact ble_ | refine AV.int_congr ?_ | refine AV.list_congr ?_ | (apply rfl)
      rw [wrap64 (by omega) (by omega)]; rfl
  · rename_i h1
    rw [length_rows] at h1
    have h2 := hi.2
    rw [List.take_of_length_le (by omega), List.take_of_length_le (by omega)] at h2
    simp [h2]
end Go.Proofs.YtoindmahilbalaaGreat
namespace Go.Proofs.YtoindmahilbalaaGreat
open Abs
abbrev VRule := Str × Int × List VCond × List VAction
instance : DecidableEq VRule := instDecidableEqProd
def tRule : Ty VRule := Ty.pair Ty.str (Ty.pair Ty.int (Ty.pair tConds tActions))
theorem tRule_size (a : VRule) : tRule.size a = a.1.length + (0 + (tConds.size a.2.2.1 + tActions.size a.2.2.2)) := rfl
theorem toRule.ret (a : VRule) (h : tRule.size a ≤ 1048576) : toRule.Ret [.agg (oldL (tRule.q a))] (.agg (tRule.tk a 0)) (tRule.fr a) := by
  refine toRule.ir.of rfl ?_
  rw [tRule_size] at h
  repeat' first
    | (conv => whnf
       first | refine Need.mk ⟨rfl, Nat.le_of_ble_eq_true rfl⟩ ?_ | refine nb_ ?_ | refine FinAgg.keep ?_ | refine Final.mk ?_ rfl | refine ACall.mk_CondS _ _ (toCondS.ret _ ?_) (by repeat' first | exact SeesL.nil | refine SeesL.cons ?_ ?_ | exact SeesB.of0 (Sees0.val _) | exact SeesB.of0 (Sees0.str _) | exact SeesB.of0 (Sees0.olds _ _) | exact SeesB.of0 (Sees0.old _) | exact SeesB.of0 (Sees0.oldagg _) | exact SeesB.of0 Sees0.nil | exact Sees0.val _ | exact Sees0.str _ | exact Sees0.olds _ _ | exact Sees0.old _ | exact Sees0.oldagg _ | exact Sees0.nil | exact SeesB.of0 (Sees0.any _) | assumption | exact sees_gv _ _ _ (by assumption) (by first | assumption | exact BoxIn.last _ _ | exact BoxIn.more (BoxIn.last _ _) _) | refine SeesB.agg ?_ | refine Sees0.agg ?_ | exact SeesB.of0 (Sees0.clo SeesL.nil SeesL.nil) | exact Sees0.clo SeesL.nil SeesL.nil | exact SeesB.of0 (Sees0.list rfl) | exact Sees0.list rfl) ?_ | refine ACall.mk_ActionS _ _ (toActionS.ret _ ?_) (by repeat' first | exact SeesL.nil | refine SeesL.cons ?_ ?_ | exact SeesB.of0 (Sees0.val _) | exact SeesB.of0 (Sees0.str _) | exact SeesB.of0 (Sees0.olds _ _) | exact SeesB.of0 (Sees0.old _) | exact SeesB.of0 (Sees0.oldagg _) | exact SeesB.of0 Sees0.nil | exact Sees0.val _ | exact Sees0.str _ | exact Sees0.olds _ _ | exact Sees0.old _ | exact Sees0.oldagg _ | exact Sees0.nil | exact SeesB.of0 (Sees0.any _) | assumption | exact sees_gv _ _ _ (by assumption) (by first | assumption | exact BoxIn.last _ _ | exact BoxIn.more (BoxIn.last _ _) _) | refine SeesB.agg ?_ | refine Sees0.agg ?_ | exact SeesB.of0 (Sees0.clo SeesL.nil SeesL.nil) | exact Sees0.clo SeesL.nil SeesL.nil | exact SeesB.of0 (Sees0.list rfl) | exact Sees0.list rfl) ?_)
  all_goals first
    | omega
    | (refine congrArg AV.agg ?_
       repeat' first
         | refine cons_congr ?_ ?_
         | refine tok_congr ?_ ?_
         | refine congrArg (tks _ _) ?_
         | rfl
       all_goals (simp [Ty.pair, Ty.str, Ty.int, Ty.bool, Nat.add_assoc]; done))
    | (simp [tRule, Ty.pair, Ty.str, Ty.int, Ty.bool, List.append_assoc, Nat.add_assoc]; done)
theorem toRule.own (a : VRule) (h : tRule.size a ≤ 1048576) : toRule.Own [.agg (oldL (tRule.q a))] (.a (tRule.q a)) := Ty.ownA tRule (toRule.ret a h)
theorem szRule.ret (f : VRule) (a : Int) (h0 : 0 ≤ a) (ha : a ≤ 1048576) (hb : tRule.bd f) :
    szRule.Ret [.agg (oldL (tRule.q f)), .val (.int .i64 a)] (.val (.int .i64 (left a (tRule.size f)))) [] := by
  refine szRule.ir.of rfl ?_
  have hz := tRule_size f
  obtain ⟨hb0, hb1, hb2, hb3⟩ := hb
  have hb0 : f.1.length ≤ 9223372036854775807 := hb0
  by_cases c1 : a < (f.1.length : Int)
  · have e0 : IntKind.i64.wrap (a - (f.1.length : Int)) = a - (f.1.length : Int) := by rw [wrap64 (by omega) (by omega)]
    repeat' first
      | (conv => whnf
         first | refine Need.mk rfl ?_ | refine Fork.decYes (by omega) ?_ | refine FinVal.keep ?_ | refine Final.mk ?_ rfl)
      | refine AV.int_congr ?_
    all_goals first
      | assumption
      | omega
      | exact left_eq (by omega)
  by_cases c2 : a < (f.1.length : Int) + (tConds.size f.2.2.1 : Int)
  · have e0 : IntKind.i64.wrap (a - (f.1.length : Int)) = a - (f.1.length : Int) := by rw [wrap64 (by omega) (by omega)]
    have e1 : left (IntKind.i64.wrap (a - (f.1.length : Int))) (tConds.size f.2.2.1) = -1 := by rw [e0, left, if_pos (by omega)]
    repeat' first
      | (conv => whnf
         first | refine Need.mk rfl ?_ | refine Fork.decYes (by omega) ?_ | refine Fork.decNo (by omega) ?_ | refine FinVal.keep ?_ | refine Final.mk ?_ rfl | refine ACall.scalA _ _ (szCondS.ret _ _ ?_ ?_ ?_) rfl ?_)
      | refine AV.int_congr ?_
    all_goals first
      | assumption
      | omega
      | exact left_eq (by omega)
  by_cases c3 : a < (f.1.length : Int) + (tConds.size f.2.2.1 : Int) + (tActions.size f.2.2.2 : Int)
  · have e0 : IntKind.i64.wrap (a - (f.1.length : Int)) = a - (f.1.length : Int) := by rw [wrap64 (by omega) (by omega)]
    have e1 : left (IntKind.i64.wrap (a - (f.1.length : Int))) (tConds.size f.2.2.1) = a - (f.1.length : Int) - (tConds.size f.2.2.1 : Int) := by rw [e0, left, if_neg (by omega)]
    have e2 : left (left (IntKind.i64.wrap (a - (f.1.length : Int))) (tConds.size f.2.2.1)) (tActions.size f.2.2.2) = -1 := by rw [e1, left, if_pos (by omega)]
    repeat' first
      | (conv => whnf
         first | refine Need.mk rfl ?_ | refine Fork.decYes (by omega) ?_ | refine Fork.decNo (by omega) ?_ | refine FinVal.keep ?_ | refine Final.mk ?_ rfl | refine ACall.scalA _ _ (szCondS.ret _ _ ?_ ?_ ?_) rfl ?_ | refine ACall.scalA _ _ (szActionS.ret _ _ ?_ ?_ ?_) rfl ?_)
      | refine AV.int_congr ?_
    all_goals first
      | assumption
      | omega
      | exact left_eq (by omega)
  have e0 : IntKind.i64.wrap (a - (f.1.length : Int)) = a - (f.1.length : Int) := by rw [wrap64 (by omega) (by omega)]
  have e1 : left (IntKind.i64.wrap (a - (f.1.length : Int))) (tConds.size f.2.2.1) = a - (f.1.length : Int) - (tConds.size f.2.2.1 : Int) := by rw [e0, left, if_neg (by omega)]
  have e2 : left (left (IntKind.i64.wrap (a - (f.1.length : Int))) (tConds.size f.2.2.1)) (tActions.size f.2.2.2) = a - (f.1.length : Int) - (tConds.size f.2.2.1 : Int) - (tActions.size f.2.2.2 : Int) := by rw [e1, left, if_neg (by omega)]
  repeat' first
    | (conv => whnf
       first | refine Need.mk rfl ?_ | refine Fork.decNo (by omega) ?_ | refine FinVal.keep ?_ | refine Final.mk ?_ rfl | refine ACall.scalA _ _ (szCondS.ret _ _ ?_ ?_ ?_) rfl ?_ | refine ACall.scalA _ _ (szActionS.ret _ _ ?_ ?_ ?_) rfl ?_)
    | refine AV.int_congr ?_
  all_goals first
    | assumption
    | omega
    | exact left_eq (by omega)
theorem eqRule.big (f g : VRule) (h : tRule.size f ≤ 1099511627775) : eqRule.Ret [.agg (oldL (tRule.q f)), .agg (oldL (tRule.q g))] (.val (.bool (decide (f = g)))) [] := by
  refine eqRule.ir.of rfl ?_
  have hz := tRule_size f
  repeat' first
    | (conv => whnf
       first | refine Need.mk rfl ?_ | refine Fork.bne (fun _ => ?_) (fun _ => ?_) | refine Fork.sne (fun _ => ?_) (fun _ => ?_) | refine Fork.neg (fun _ => ?_) (fun _ => ?_) | refine FinVal.keep ?_ | refine Final.mk ?_ rfl | refine ACall.scalA _ _ (eqCondS.big _ _ ?_) rfl ?_ | refine ACall.scalA _ _ (eqActionS.big _ _ ?_) rfl ?_)
    | refine AV.bool_congr ?_
  all_goals first
    | omega
    | (simp only [tStrs_size, tInts_size] at *; omega)
    | (obtain ⟨x0, x1, x2, x3⟩ := f; obtain ⟨y0, y1, y2, y3⟩ := g; simp_all)
end Go.Proofs.YtoindmahilbalaaGreat
namespace Go.Proofs.YtoindmahilbalaaGreat
open Abs
theorem tFact_size (a : Fct) : tFct.size a = a.1.length + tStrs.size a.2 := rfl
theorem tFcts_sz (l : List Fct) : tFcts.size l = l.length + listSize tFct l := rfl
theorem tFct_get {l : List Fct} {i : Nat} (hi : i < l.length) : l[i]? = some (l.getD i default) := by simp [List.getD, hi]
theorem Abs.ACall.mk_FactS {C : Con} {lend : Bool} {f : Nat} {vs : List AV} {b : List ABox} {fr : Fr} {k : AV → List ABox → Fr → Prop} (ys : List AV) (l : List Fct) (h : C.ret f ys (.list (some (0 + (frs tFct l).length)) (tks tFct l 0)) (tFcts.fr l)) (hv : SeesL Sees0 vs ys)
    (hk : k (.list (some (fr.length + (frs tFct l).length)) (tks tFct l fr.length)) b (fr ++ tFcts.fr l)) : ACall C lend f vs b fr k :=
  ACall.mkV tFcts ys l (fun n => .list (some (n + (frs tFct l).length)) (tks tFct l n)) (fun _ => rfl) h hv hk
theorem eqFact.big (f g : Fct) (h : tFct.size f ≤ 1099511627775) : eqFact.Ret [.agg (oldL (tFct.q f)), .agg (oldL (tFct.q g))] (.val (.bool (decide (f = g)))) [] := by
  refine eqFact.ir.of rfl ?_
  have hz := tFact_size f
  repeat' first
    | (conv => whnf
       first | refine Fork.sne (fun _ => ?_) (fun _ => ?_) | refine Fork.neg (fun _ => ?_) (fun _ => ?_) | refine FinVal.keep ?_ | refine Final.mk ?_ rfl | refine ACall.scalA _ _ (eqStringS.big _ _ ?_) rfl ?_)
    | refine AV.bool_congr ?_
  all_goals first
    | omega
    | (simp only [tStrs_size, tInts_size] at *; omega)
    | (obtain ⟨x0, x1⟩ := f; obtain ⟨y0, y1⟩ := g; simp_all)
theorem eqFactS.big (l m : List Fct) (h : tFcts.size l ≤ 1099511627775) : eqFactS.Ret [.list none (rows tFct l), .list none (rows tFct m)] (.val (.bool (decide (l = m)))) [] := by
  refine eqFactS.ir.of rfl ?_
  rw [tFcts_sz] at h
  repeat' first
    | (conv => whnf
       first | refine Need.mk rfl ?_ | refine Fork.bne (fun _ => ?_) (fun _ => ?_) | refine FinVal.keep ?_ | refine Final.mk ?_ rfl)
    | refine AV.bool_congr ?_
  · rename_i h
    rw [length_rows, length_rows] at h
    have h3 : ¬ l = m := fun e => h (by rw [e])
    simp [h3]
  rename_i h
  rw [length_rows, length_rows] at h
  have h : l.length = m.length := by omega
  skip
  refine ALoop.mk Nat (fun i => ⟨[(0, .list none (rows tFct l)), (1, .list none (rows tFct m)), (5, .val (.int .i64 i))], [], []⟩) (fun i => i ≤ l.length ∧ l.take i = m.take i) (fun i => l.length - i) ⟨0, ⟨Nat.zero_le _, rfl⟩, ?_⟩ (fun i hi => ?_)
  · repeat' first
      | exact trivial | refine wl_ ?_ ?_ ?_ ?_ | refine And.intro ?_ ?_ | with_reducible rfl | exact ble_ | refine AV.int_congr ?_ | refine AV.list_congr ?_ | (apply rfl)
  repeat' first
    | (conv => whnf
       first | refine Need.mk rfl ?_ | refine nb_ ?_ | refine Ix.mapF (fun _ => rfl) ?_ | refine Fork.dec (fun _ => ?_) (fun _ => ?_) | refine Fork.neg (fun _ => ?_) (fun _ => ?_) | refine Round.mk ?_ | refine FinVal.keep ?_ | refine Final.mk ?_ rfl | refine AQCall.mkA _ _ (fun hg => eqFact.big _ _ ?_) rfl ?_)
    | refine AV.bool_congr ?_
  · rename_i h1
    rw [length_rows] at h1
    have := listSize_mem tFct (List.mem_of_getElem? (tFct_get (l := l) (i := i) (by omega)))
    rw [Int.toNat_natCast]; omega
  · rename_i h1 h2
    have h3 : ¬ l = m := fun e => of_decide_eq_false h2 (by rw [e])
    simp [h3]
  · rename_i h1 h2
    rw [length_rows] at h1
    rw [Int.toNat_natCast] at h2
    refine ⟨i + 1, ⟨by omega, ?_⟩, ?_, by omega⟩
    · rw [take_succ' default (by omega), take_succ' (l := m) default (by omega), hi.2, of_decide_eq_true h2]
    · repeat' first
        | exact trivial | refine wl_ ?_ ?_ ?_ ?_ | refine And.intro ?_ ?_ | with_reducible rfl | exact ble_ | refine AV.int_congr ?_ | refine AV.list_congr ?_ | (apply rfl)
      rw [wrap64 (by omega) (by omega)]; rfl
  · rename_i h1
    rw [length_rows] at h1
    have h2 := hi.2
    rw [List.take_of_length_le (by omega), List.take_of_length_le (by omega)] at h2
    simp [h2]
end Go.Proofs.YtoindmahilbalaaGreat
namespace Go.Proofs.YtoindmahilbalaaGreat
open Abs
abbrev VPair := Str × Str
instance : DecidableEq VPair := instDecidableEqProd
def tPair : Ty VPair := Ty.pair Ty.str Ty.str
theorem tPair_size (a : VPair) : tPair.size a = a.1.length + a.2.length := rfl
def tPairs : Ty (List VPair) := Ty.plain 141 tPair (fun _ => rfl) (fun _ => rfl)
theorem tPairs_sz (l : List VPair) : tPairs.size l = l.length + listSize tPair l := rfl
theorem tPair_get {l : List VPair} {i : Nat} (hi : i < l.length) : l[i]? = some (l.getD i default) := by simp [List.getD, hi]
theorem tPair_le {l : List VPair} {i : Nat} (hi : i < l.length) : tPair.size (l.getD i default) ≤ listSize tPair l := listSize_mem tPair (List.mem_of_getElem? (tPair_get hi))
theorem Abs.ACall.mk_Pair {C : Con} {lend : Bool} {f : Nat} {vs : List AV} {b : List ABox} {fr : Fr} {k : AV → List ABox → Fr → Prop} (ys : List AV) (a : VPair) (h : C.ret f ys (.agg (tPair.tk a 0)) []) (hv : SeesL Sees0 vs ys)
    (hk : k (.agg (tPair.tk a 0)) b fr) : ACall C lend f vs b fr k := by
  refine ACall.mkA tPair ys a h hv ?_
  show k _ b (fr ++ [])
  rw [List.append_nil]; exact hk
theorem Abs.ACall.mk_PairS {C : Con} {lend : Bool} {f : Nat} {vs : List AV} {b : List ABox} {fr : Fr} {k : AV → List ABox → Fr → Prop} (ys : List AV) (l : List VPair) (h : C.ret f ys (.list (some 0) (rows tPair l)) [(141, 2, l.length)]) (hv : SeesL Sees0 vs ys)
    (hk : k (.list (some fr.length) (rows tPair l)) b (fr ++ [(141, 2, l.length)])) : ACall C lend f vs b fr k :=
  ACall.mkV tPairs ys l (fun n => .list (some n) (rows tPair l)) (fun _ => rfl) h hv hk
theorem toPair.ret (a : VPair) (h : tPair.size a ≤ 1048576) : toPair.Ret [.agg (oldL (tPair.q a))] (.agg (tPair.tk a 0)) [] := by
  refine toPair.ir.of rfl ?_
  rw [tPair_size] at h
  repeat' first
    | (conv => whnf
       first | refine Need.mk ⟨rfl, Nat.le_of_ble_eq_true rfl⟩ ?_ | refine nb_ ?_ | refine FinAgg.keep ?_ | refine Final.mk rfl rfl)
  all_goals first
    | omega
    | (refine congrArg AV.agg ?_
       repeat' first
         | refine cons_congr ?_ ?_
         | refine tok_congr ?_ ?_
         | refine congrArg (tks _ _) ?_
         | rfl
       all_goals (simp [Ty.pair, Ty.str, Ty.int, Ty.bool, Nat.add_assoc]; done))
    | (simp [tPair, Ty.pair, Ty.str, Ty.int, Ty.bool, List.append_assoc, Nat.add_assoc]; done)
theorem szPair.ret (f : VPair) (a : Int) (h0 : 0 ≤ a) (ha : a ≤ 1048576) (hb : tPair.bd f) :
    szPair.Ret [.agg (oldL (tPair.q f)), .val (.int .i64 a)] (.val (.int .i64 (left a (tPair.size f)))) [] := by
  refine szPair.ir.of rfl ?_
  have hz := tPair_size f
  obtain ⟨hb0, hb1⟩ := hb
  have hb0 : f.1.length ≤ 9223372036854775807 := hb0
  have hb1 : f.2.length ≤ 9223372036854775807 := hb1
  by_cases c1 : a < (f.1.length : Int)
  · have e0 : IntKind.i64.wrap (a - (f.1.length : Int)) = a - (f.1.length : Int) := by rw [wrap64 (by omega) (by omega)]
    repeat' first
      | (conv => whnf
         first | refine Need.mk rfl ?_ | refine Fork.decYes (by omega) ?_ | refine FinVal.keep ?_ | refine Final.mk ?_ rfl)
      | refine AV.int_congr ?_
    all_goals first
      | assumption
      | omega
      | exact left_eq (by omega)
  by_cases c2 : a < (f.1.length : Int) + (f.2.length : Int)
  · have e0 : IntKind.i64.wrap (a - (f.1.length : Int)) = a - (f.1.length : Int) := by rw [wrap64 (by omega) (by omega)]
    have e1 : IntKind.i64.wrap (IntKind.i64.wrap (a - (f.1.length : Int)) - (f.2.length : Int)) = a - (f.1.length : Int) - (f.2.length : Int) := by rw [e0, wrap64 (by omega) (by omega)]
    repeat' first
      | (conv => whnf
         first | refine Need.mk rfl ?_ | refine Fork.decYes (by omega) ?_ | refine Fork.decNo (by omega) ?_ | refine FinVal.keep ?_ | refine Final.mk ?_ rfl)
      | refine AV.int_congr ?_
    all_goals first
      | assumption
      | omega
      | exact left_eq (by omega)
  have e0 : IntKind.i64.wrap (a - (f.1.length : Int)) = a - (f.1.length : Int) := by rw [wrap64 (by omega) (by omega)]
  have e1 : IntKind.i64.wrap (IntKind.i64.wrap (a - (f.1.length : Int)) - (f.2.length : Int)) = a - (f.1.length : Int) - (f.2.length : Int) := by rw [e0, wrap64 (by omega) (by omega)]
  repeat' first
    | (conv => whnf
       first | refine Need.mk rfl ?_ | refine Fork.decNo (by omega) ?_ | refine FinVal.keep ?_ | refine Final.mk ?_ rfl)
    | refine AV.int_congr ?_
  all_goals first
    | assumption
    | omega
    | exact left_eq (by omega)
theorem eqPair.big (f g : VPair) (h : tPair.size f ≤ 1099511627775) : eqPair.Ret [.agg (oldL (tPair.q f)), .agg (oldL (tPair.q g))] (.val (.bool (decide (f = g)))) [] := by
  refine eqPair.ir.of rfl ?_
  have hz := tPair_size f
  repeat' first
    | (conv => whnf
       first | refine Fork.sne (fun _ => ?_) (fun _ => ?_) | refine FinVal.keep ?_ | refine Final.mk ?_ rfl)
    | refine AV.bool_congr ?_
  all_goals first
    | omega
    | (simp only [tStrs_size, tInts_size] at *; omega)
    | (obtain ⟨x0, x1⟩ := f; obtain ⟨y0, y1⟩ := g; simp_all)
theorem toPairS.ret (l : List VPair) (h : tPairs.size l ≤ 1048576) : toPairS.Ret [.list none (rows tPair l)] (.list (some 0) (rows tPair l)) [(141, 2, l.length)] := by
  refine toPairS.ir.of rfl ?_
  rw [tPairs_sz] at h
  repeat' first
    | (conv => whnf
       first | refine Need.fin ?_)
  refine ALoop.mk Nat (fun i => ⟨[(0, .list none (rows tPair l)), (3, .bsl 0 l.length), (4, .val (.int .i64 i))], [.cells (.row 141 2) (part [.str [], .str []] (rows tPair l) i)], []⟩) (fun i => i ≤ l.length) (fun i => l.length - i) ⟨0, Nat.zero_le _, ?_⟩ (fun i hi => ?_)
  · repeat' first
      | exact trivial | refine wl_ ?_ ?_ ?_ ?_ | refine And.intro ?_ ?_ | with_reducible rfl | exact ble_ | refine AV.int_congr ?_ | refine AV.list_congr ?_ | refine AV.bsl_congr ?_ ?_ | (apply rfl)
    · simp
    · simp only [List.nil_append, List.length_cons, List.length_nil, List.take_succ_cons, List.take_zero]
      rw [part_made (xs := rows tPair l) (sz := 2) rfl (by decide) (by simp)]; rfl
  have hsz : ∀ c ∈ rows tPair l, c.length = 2 := oldLL_sz tPair.hq
  repeat' first
    | (conv => whnf
       first | refine Need.mk rfl ?_ | refine nb_ ?_ | refine Need.fin ?_ | refine Need.mk ?_ ?_ | refine Ix.mapF (fun _ => rfl) ?_ | refine Fork.dec (fun _ => ?_) (fun _ => ?_) | refine Round.mk ?_ | refine ACall.mk_Pair _ _ (toPair.ret _ ?_) (by repeat' first | exact SeesL.nil | refine SeesL.cons ?_ ?_ | exact SeesB.of0 (Sees0.val _) | exact SeesB.of0 (Sees0.str _) | exact SeesB.of0 (Sees0.olds _ _) | exact SeesB.of0 (Sees0.old _) | exact SeesB.of0 (Sees0.oldagg _) | exact SeesB.of0 Sees0.nil | exact Sees0.val _ | exact Sees0.str _ | exact Sees0.olds _ _ | exact Sees0.old _ | exact Sees0.oldagg _ | exact Sees0.nil | exact SeesB.of0 (Sees0.any _) | assumption | exact sees_gv _ _ _ (by assumption) (by first | assumption | exact BoxIn.last _ _ | exact BoxIn.more (BoxIn.last _ _) _) | refine SeesB.agg ?_ | refine Sees0.agg ?_ | exact SeesB.of0 (Sees0.clo SeesL.nil SeesL.nil) | exact Sees0.clo SeesL.nil SeesL.nil | exact SeesB.of0 (Sees0.list rfl) | exact Sees0.list rfl) ?_)
  · rename_i h1
    rw [length_rows] at h1
    have := listSize_mem tPair (List.mem_of_getElem? (tPair_get (l := l) (i := i) (by omega)))
    rw [Int.toNat_natCast]; omega
  · rename_i h1
    rw [length_rows] at h1
    rw [part_len (sz := 2) rfl hsz (by rw [length_rows]; exact hi), Int.toNat_natCast, length_rows]
    exact ⟨rfl, by omega⟩
  · rename_i h1
    rw [length_rows] at h1
    refine ⟨i + 1, by omega, ?_, by omega⟩
    repeat' first
      | exact trivial | refine wl_ ?_ ?_ ?_ ?_ | refine And.intro ?_ ?_ | with_reducible rfl | exact ble_ | refine AV.int_congr ?_ | refine AV.list_congr ?_ | refine AV.bsl_congr ?_ ?_
    · rw [wrap64 (by omega) (by omega)]; rfl
    · have hg : (rows tPair l)[i]? = some (oldL (tPair.q (l.getD i default))) := by rw [rows, oldLL_eq, List.getElem?_map, List.getElem?_map, tPair_get (by omega), oldL_eq]; rfl
      have := part_set (z := [.str [], .str []]) (sz := 2) rfl hsz hg
      simp only [List.set_cons_zero, List.take_succ_cons, List.take_zero, List.length_cons, List.length_nil, Int.toNat_natCast]
      exact congrArg (fun c => [ABox.cells (.row 141 2) c]) this
  · rename_i h1
    rw [length_rows] at h1
    conv => whnf
    have : i = l.length := by omega
    subst this
    have hall := part_all [.str [], .str []] (rows tPair l)
    rw [length_rows] at hall
    refine FreezeD.flat (Freeze.mk (rows tPair l) _ 141 2 rfl hall (length_rows _ _) hsz (fun c hc => ?_) ?_)
    · rw [hall, ← rowsP_tks tPair (fun _ => rfl) (fun _ => rfl)] at hc; exact tks_nr tPair l 0 c hc
    · exact Final.mk rfl rfl
theorem szPairS.ret (l : List VPair) (a : Int) (h0 : 0 ≤ a) (ha : a ≤ 1048576) (hb : tPairs.bd l) :
    szPairS.Ret [.list none (rows tPair l), .val (.int .i64 a)] (.val (.int .i64 (left a (tPairs.size l)))) [] := by
  refine szPairS.ir.of rfl ?_
  obtain ⟨hl, hb⟩ := hb
  have hw : IntKind.i64.wrap (a - ((rows tPair l).length : Int)) = a - l.length := by rw [length_rows]; exact wrap64 (by omega) (by omega)
  have hz := tPairs_sz l
  repeat' first
    | (conv => whnf
       first | refine Need.mk rfl ?_ | refine Fork.dec (fun _ => ?_) (fun _ => ?_) | refine FinVal.keep ?_ | refine Final.mk ?_ rfl)
    | refine AV.int_congr ?_
  · rename_i h
    rw [hw] at h
    rw [left, if_pos (by omega)]
  rename_i h
  rw [hw] at h
  skip
  refine ALoop.mk Nat (fun i => ⟨[(0, .list none (rows tPair l)), (1, .val (.int .i64 (a - l.length - listSize tPair (l.take i)))), (5, .val (.int .i64 i))], [], []⟩) (fun i => i ≤ l.length ∧ (0 : Int) ≤ a - l.length - listSize tPair (l.take i)) (fun i => l.length - i) ⟨0, ⟨Nat.zero_le _, by simp [listSize]; omega⟩, ?_⟩ (fun i hi => ?_)
  · repeat' first
      | exact trivial | refine wl_ ?_ ?_ ?_ ?_ | refine And.intro ?_ ?_ | with_reducible rfl | exact ble_ | refine AV.int_congr ?_ | refine AV.list_congr ?_ | (apply rfl)
    rw [hw]; simp [listSize]
  obtain ⟨hp1, hp2⟩ := hi
  have hle := listSize_take_le tPair l (i + 1)
  have hbi : i < l.length → tPair.bd (l.getD i default) := fun h => hb _ (List.mem_of_getElem? (tPair_get h))
  have hsz : i < l.length → listSize tPair (l.take (i + 1)) = listSize tPair (l.take i) + tPair.size (l.getD i default) := fun h => listSize_take_succ tPair (tPair_get h)
  repeat' first
    | (conv => whnf
       first | refine Need.mk rfl ?_ | refine nb_ ?_ | refine Ix.mapF (fun _ => rfl) ?_ | refine Fork.dec (fun _ => ?_) (fun _ => ?_) | refine Round.mk ?_ | refine FinVal.keep ?_ | refine Final.mk ?_ rfl | refine ACall.scalA _ _ (szPair.ret _ _ ?_ ?_ ?_) rfl ?_)
    | refine AV.int_congr ?_
  · exact hp2
  · omega
  · rename_i h1
    rw [length_rows] at h1
    rw [Int.toNat_natCast]; exact hbi (by omega)
  · rename_i h1 h2
    rw [length_rows] at h1
    rw [Int.toNat_natCast] at h2
    have := hsz (by omega)
    unfold left at h2 ⊢
    split at h2
    · rw [if_pos (by omega)]
    · omega
  · rename_i h1 h2
    rw [length_rows] at h1
    rw [Int.toNat_natCast] at h2
    have := hsz (by omega)
    have e : left (a - ↑l.length - ↑(listSize tPair (l.take i))) (tPair.size (l.getD i default)) = a - ↑l.length - ↑(listSize tPair (l.take (i + 1))) := by
      unfold left at h2 ⊢
      split at h2
      · omega
      · rw [if_neg ‹_›]; omega
    refine ⟨i + 1, ⟨by omega, ?_⟩, ?_, by omega⟩
    · rw [← e]; omega
    · repeat' first
        | exact trivial | refine wl_ ?_ ?_ ?_ ?_ | refine And.intro ?_ ?_ | with_reducible rfl | exact ble_ | refine AV.int_congr ?_ | refine AV.list_congr ?_ | (apply rfl)
      · rw [Int.toNat_natCast]; exact e
      · rw [wrap64 (by omega) (by omega)]; rfl
  · rename_i h1
    rw [length_rows] at h1
    rw [List.take_of_length_le (by omega)] at hp2 ⊢
    rw [left, if_neg (by omega)]; omega
theorem eqPairS.big (l m : List VPair) (h : tPairs.size l ≤ 1099511627775) : eqPairS.Ret [.list none (rows tPair l), .list none (rows tPair m)] (.val (.bool (decide (l = m)))) [] := by
  refine eqPairS.ir.of rfl ?_
  rw [tPairs_sz] at h
  repeat' first
    | (conv => whnf
       first | refine Need.mk rfl ?_ | refine Fork.bne (fun _ => ?_) (fun _ => ?_) | refine FinVal.keep ?_ | refine Final.mk ?_ rfl)
    | refine AV.bool_congr ?_
  · rename_i h
    rw [length_rows, length_rows] at h
    have h3 : ¬ l = m := fun e => h (by rw [e])
    simp [h3]
  rename_i h
  rw [length_rows, length_rows] at h
  have h : l.length = m.length := by omega
  skip
  refine ALoop.mk Nat (fun i => ⟨[(0, .list none (rows tPair l)), (1, .list none (rows tPair m)), (5, .val (.int .i64 i))], [], []⟩) (fun i => i ≤ l.length ∧ l.take i = m.take i) (fun i => l.length - i) ⟨0, ⟨Nat.zero_le _, rfl⟩, ?_⟩ (fun i hi => ?_)
  · repeat' first
      | exact trivial | refine wl_ ?_ ?_ ?_ ?_ | refine And.intro ?_ ?_ | with_reducible rfl | exact ble_ | refine AV.int_congr ?_ | refine AV.list_congr ?_ | (apply rfl)
  repeat' first
    | (conv => whnf
       first | refine Need.mk rfl ?_ | refine nb_ ?_ | refine Ix.mapF (fun _ => rfl) ?_ | refine Fork.dec (fun _ => ?_) (fun _ => ?_) | refine Fork.neg (fun _ => ?_) (fun _ => ?_) | refine Round.mk ?_ | refine FinVal.keep ?_ | refine Final.mk ?_ rfl | refine AQCall.mkA _ _ (fun hg => eqPair.big _ _ ?_) rfl ?_)
    | refine AV.bool_congr ?_
  · rename_i h1
    rw [length_rows] at h1
    have := listSize_mem tPair (List.mem_of_getElem? (tPair_get (l := l) (i := i) (by omega)))
    rw [Int.toNat_natCast]; omega
  · rename_i h1 h2
    have h3 : ¬ l = m := fun e => of_decide_eq_false h2 (by rw [e])
    simp [h3]
  · rename_i h1 h2
    rw [length_rows] at h1
    rw [Int.toNat_natCast] at h2
    refine ⟨i + 1, ⟨by omega, ?_⟩, ?_, by omega⟩
    · rw [take_succ' default (by omega), take_succ' (l := m) default (by omega), hi.2, of_decide_eq_true h2]
    · repeat' first
        | exact trivial | refine wl_ ?_ ?_ ?_ ?_ | refine And.intro ?_ ?_ | with_reducible rfl | exact ble_ | refine AV.int_congr ?_ | refine AV.list_congr ?_ | (apply rfl)
      rw [wrap64 (by omega) (by omega)]; rfl
  · rename_i h1
    rw [length_rows] at h1
    have h2 := hi.2
    rw [List.take_of_length_le (by omega), List.take_of_length_le (by omega)] at h2
    simp [h2]
end Go.Proofs.YtoindmahilbalaaGreat
namespace Go.Proofs.YtoindmahilbalaaGreat
open Abs
abbrev VToken := List Fct × List VPair
instance : DecidableEq VToken := instDecidableEqProd
def tToken : Ty VToken := Ty.pair tFcts tPairs
theorem tToken_size (a : VToken) : tToken.size a = tFcts.size a.1 + tPairs.size a.2 := rfl
def tTokens : Ty (List VToken) := Ty.list 90 tToken
theorem tToken_get {l : List VToken} {i : Nat} (hi : i < l.length) : l[i]? = some (l.getD i default) := by simp [List.getD, hi]
theorem Abs.ACall.mk_Token {C : Con} {lend : Bool} {f : Nat} {vs : List AV} {b : List ABox} {fr : Fr} {k : AV → List ABox → Fr → Prop} (ys : List AV) (a : VToken) (h : C.ret f ys (.agg (tToken.tk a 0)) (tToken.fr a)) (hv : SeesL Sees0 vs ys)
    (hk : k (.agg (tToken.tk a fr.length)) b (fr ++ tToken.fr a)) : ACall C lend f vs b fr k := ACall.mkA tToken ys a h hv hk
theorem Abs.ACall.mk_TokenS {C : Con} {lend : Bool} {f : Nat} {vs : List AV} {b : List ABox} {fr : Fr} {k : AV → List ABox → Fr → Prop} (ys : List AV) (l : List VToken) (h : C.ret f ys (.list (some (0 + (frs tToken l).length)) (tks tToken l 0)) (tTokens.fr l)) (hv : SeesL Sees0 vs ys)
    (hk : k (.list (some (fr.length + (frs tToken l).length)) (tks tToken l fr.length)) b (fr ++ tTokens.fr l)) : ACall C lend f vs b fr k :=
  ACall.mkV tTokens ys l (fun n => .list (some (n + (frs tToken l).length)) (tks tToken l n)) (fun _ => rfl) h hv hk
end Go.Proofs.YtoindmahilbalaaGreat
namespace Go.Proofs.YtoindmahilbalaaGreat
open Abs
def sTokensOf.code : ACode := (q_ (r_ [s 3 (.box (t 0)), s 6 (.mv (.const (.slice none 0 0)))]) (q_ (.seq (r_ [s 7 (a_ 4 3), s 8 (.call 48 [(t 7)]), s 9 (.not (t 8)), v_ 10 9, g 10 false 11 (.mv (t 2)), g 10 false 12 (.call 49 [(t 11)]), g 10 false 13 (.not (t 12)), s 14 (.or (t 10) (t 13)), v_ 15 14, g 15 false 16 (.mv (t 1)), g 15 false 17 (f_ 2 3), g 15 false 18 (l_ 17), g 15 false 19 (.len false (t 18)), g 15 false 20 (.call 50 [(t 16), (i_ 0), (t 19)]), g 15 false 21 (.not (t 20)), s 22 (.or (t 15) (t 21))]) (.cond (t 22) (q_ (r_ [s 23 (.bslice 90 2 true []), v_ 6 23]) .ret) .skip)) (q_ (r_ [s 24 (f_ 2 3), s 25 (l_ 24), v_ 26 1, s 27 (.slice false 5 (t 25) none (some (t 26))), v_ 28 2, s 29 (.call 51 [(t 27), (t 28)]), v_ 6 29]) .ret)))
theorem sTokensOf.ir : IrAt Tryz.prog 11 sTokensOf.code [0, 1, 2, 3, 6] [.tmp 6] Tryz.f11.ntmps := ir_ Tryz.func11
abbrev sTokensOf.Own (args : List AV) (x : Tr) : Prop := Abs.Own true Tryz.prog 11 args x
def pTokensOf.code : ACode := (q_ (r_ [s 3 (.box (t 0)), s 6 (.mv (.const (.slice none 0 0)))]) (q_ (.seq (r_ [s 7 (a_ 4 3), s 8 (.call 55 [(t 7)]), s 9 (.not (t 8)), v_ 10 9, g 10 false 11 (.mv (t 2)), g 10 false 12 (.call 56 [(t 11)]), g 10 false 13 (.not (t 12)), s 14 (.or (t 10) (t 13)), v_ 15 14, g 15 false 16 (.mv (t 1)), g 15 false 17 (.bin .lss (t 16) (i_ 0)), s 18 (.or (t 15) (t 17)), v_ 19 18, g 19 false 20 (.mv (t 1)), g 19 false 21 (f_ 2 3), g 19 false 22 (l_ 21), g 19 false 23 (.len false (t 22)), g 19 false 24 (.bin .gtr (t 20) (t 23)), s 25 (.or (t 19) (t 24))]) (.cond (t 25) (q_ (r_ [s 26 (.bslice 90 2 true []), v_ 6 26]) .ret) .skip)) (q_ (r_ [s 27 (f_ 2 3), s 28 (l_ 27), v_ 29 1, s 30 (.slice false 5 (t 28) none (some (t 29))), v_ 31 2, s 32 (.call 57 [(t 30), (t 31)]), v_ 6 32]) .ret)))
theorem pTokensOf.ir : IrAt Tryz.prog 14 pTokensOf.code [0, 1, 2, 3, 6] [.tmp 6] Tryz.f14.ntmps := ir_ Tryz.func14
abbrev pTokensOf.OwnN (args : List AV) (x : Tr) : Prop := Abs.Own false Tryz.prog 14 args x
def sMatchesOf.code : ACode := (q_ (r_ [s 2 (.box (t 0)), s 4 (.mv (.const (.slice none 0 0)))]) (q_ (r_ [s 8 (.bslice 65 3 true []), v_ 5 8]) (q_ (r_ [s 9 (a_ 4 2), s 10 (f_ 2 2), s 11 (l_ 10), s 12 (.len false (t 11)), v_ 13 1, s 14 (.call 11 [(t 9), (t 12), (t 13)]), v_ 6 14]) (q_ (.seq (r_ [s 7 (.mv (i_ 0))]) (.block 0 (.loop (q_ (.seq (r_ [v_ 15 7, v_ 16 6, s 17 (.len false (t 16)), s 18 (.bin .lss (t 15) (t 17))]) (.cond (t 18) .skip (.exit 0))) (q_ (.block 1 (.held [v_ 21 5, s 22 (f_ 0 2), s 23 (l_ 22), v_ 24 6, v_ 25 7, s 26 (.iadr 2 (t 24) (t 25)), s 27 (f_ 0 26), s 28 (l_ 27), v_ 29 6, v_ 30 7, s 31 (.iadr 2 (t 29) (t 30)), s 32 (f_ 1 31), s 33 (l_ 32), s 34 (.build [(.string (.mk (.mk []))), (.slice none 0 0), (.slice none 0 0)] [(0, 1), (1, 1), (2, 1)] [(t 23), (t 28), (t 33)]), s 35 (.bslice 65 3 false [(t 34)])] [s 36 (.append 65 3 64 (t 21) (t 35)), v_ 5 36])) (r_ [v_ 19 7, s 20 (.bin .add (t 19) (i_ 1)), v_ 7 20])))))) (q_ (r_ [v_ 37 5, v_ 4 37]) .ret)))))
theorem sMatchesOf.ir : IrAt Tryz.prog 22 sMatchesOf.code [0, 1, 2, 4, 5, 6, 7] [.tmp 4] Tryz.f22.ntmps := ir_ Tryz.func22
abbrev sMatchesOf.Own (args : List AV) (x : Tr) : Prop := Abs.Own true Tryz.prog 22 args x
def pMatchesOf.code : ACode := (q_ (r_ [s 2 (.box (t 0)), s 4 (.mv (.const (.slice none 0 0)))]) (q_ (r_ [s 9 (a_ 4 2), s 10 (f_ 2 2), s 11 (l_ 10), s 12 (.len false (t 11)), v_ 13 1, s 14 (.call 14 [(t 9), (t 12), (t 13)]), v_ 5 14]) (q_ (r_ [v_ 15 5, s 16 (.len false (t 15)), s 17 (.make 65 [(.string (.mk (.mk []))), (.slice none 0 0), (.slice none 0 0)] 3 64 (t 16)), v_ 6 17]) (q_ (.seq (r_ [v_ 18 5, s 19 (.len false (t 18)), s 20 (.mv (i_ 0))]) (.block 0 (.loop (q_ (r_ [s 21 (.bin .lss (t 20) (t 19))]) (q_ (.cond (t 21) .skip (.exit 0)) (q_ (.block 1 (q_ (r_ [v_ 22 20, s 23 (.iadr 2 (t 18) (t 20)), s 24 (a_ 2 23), s 8 (.alloc [(.slice none 0 0), (.slice none 0 0)]), v_ 7 22, ⟨none, none, (.store 2 (t 8) (t 24))⟩]) (r_ [v_ 25 6, v_ 26 7, s 27 (f_ 0 2), s 28 (l_ 27), s 29 (f_ 0 8), s 30 (l_ 29), s 31 (f_ 1 8), s 32 (l_ 31), s 33 (.build [(.string (.mk (.mk []))), (.slice none 0 0), (.slice none 0 0)] [(0, 1), (1, 1), (2, 1)] [(t 28), (t 30), (t 32)]), s 34 (.iadr 3 (t 25) (t 26)), ⟨none, none, (.store 3 (t 34) (t 33))⟩]))) (r_ [s 35 (.bin .add (t 20) (i_ 1)), v_ 20 35]))))))) (q_ (r_ [v_ 36 6, v_ 4 36]) .ret)))))
theorem pMatchesOf.ir : IrAt Tryz.prog 23 pMatchesOf.code [0, 1, 2, 4, 5, 6, 7, 8, 18, 19, 20, 21] [.tmp 4] Tryz.f23.ntmps := ir_ Tryz.func23
abbrev pMatchesOf.OwnN (args : List AV) (x : Tr) : Prop := Abs.Own false Tryz.prog 23 args x
def sSameMatch.code : ACode := (q_ (r_ [s 2 (.box (t 0)), s 3 (.box (t 1)), s 4 (.mv (.const (.bool false)))]) (q_ (r_ [s 5 (f_ 0 2), s 6 (l_ 5), s 7 (f_ 0 3), s 8 (l_ 7), s 9 (.bin .eql (t 6) (t 8)), v_ 10 9, g 10 true 11 (f_ 1 2), g 10 true 12 (l_ 11), g 10 true 13 (f_ 1 3), g 10 true 14 (l_ 13), g 10 true 15 (.call 112 [(t 12), (t 14)]), s 16 (.and (t 10) (t 15)), v_ 17 16, g 17 true 18 (f_ 2 2), g 17 true 19 (l_ 18), g 17 true 20 (f_ 2 3), g 17 true 21 (l_ 20), g 17 true 22 (.call 113 [(t 19), (t 21)]), s 23 (.and (t 17) (t 22)), v_ 4 23]) .ret))
theorem sSameMatch.ir : IrAt Tryz.prog 72 sSameMatch.code [0, 1, 2, 3, 4] [.tmp 4] Tryz.f72.ntmps := ir_ Tryz.func72
abbrev sSameMatch.Ret (args : List AV) (r : AV) (frs : Fr) : Prop := Abs.Ret true Tryz.prog 72 args r frs
def pSameMatch.code : ACode := (q_ (r_ [s 2 (.box (t 0)), s 3 (.box (t 1)), s 4 (.mv (.const (.bool false)))]) (q_ (r_ [s 5 (f_ 0 2), s 6 (l_ 5), s 7 (f_ 0 3), s 8 (l_ 7), s 9 (.bin .eql (t 6) (t 8)), v_ 10 9, g 10 true 11 (f_ 1 2), g 10 true 12 (l_ 11), g 10 true 13 (f_ 1 3), g 10 true 14 (l_ 13), g 10 true 15 (.call 116 [(t 12), (t 14)]), s 16 (.and (t 10) (t 15)), v_ 17 16, g 17 true 18 (f_ 2 2), g 17 true 19 (l_ 18), g 17 true 20 (f_ 2 3), g 17 true 21 (l_ 20), g 17 true 22 (.call 117 [(t 19), (t 21)]), s 23 (.and (t 17) (t 22)), v_ 4 23]) .ret))
theorem pSameMatch.ir : IrAt Tryz.prog 76 pSameMatch.code [0, 1, 2, 3, 4] [.tmp 4] Tryz.f76.ntmps := ir_ Tryz.func76
abbrev pSameMatch.Ret (args : List AV) (r : AV) (frs : Fr) : Prop := Abs.Ret true Tryz.prog 76 args r frs
def sIsMatch.code : ACode := (q_ (r_ [s 3 (.box (t 0)), s 5 (.box (t 2)), s 6 (.mv (.const (.bool false)))]) (q_ (r_ [s 9 (a_ 4 3), v_ 10 1, s 11 (.call 22 [(t 9), (t 10)]), v_ 7 11]) (q_ (.seq (r_ [s 8 (.mv (i_ 0))]) (.block 0 (.loop (q_ (.seq (r_ [v_ 12 8, v_ 13 7, s 14 (.len false (t 13)), s 15 (.bin .lss (t 12) (t 14))]) (.cond (t 15) .skip (.exit 0))) (q_ (.block 1 (q_ (.region true [v_ 18 7, v_ 19 8, s 20 (.iadr 3 (t 18) (t 19)), s 21 (a_ 3 20), s 22 (a_ 3 5), s 23 (.call 72 [(t 21), (t 22)])]) (.cond (t 23) (q_ (r_ [s 6 (.mv (.const (.bool true)))]) .ret) .skip))) (r_ [v_ 16 8, s 17 (.bin .add (t 16) (i_ 1)), v_ 8 17])))))) (q_ (r_ [s 6 (.mv (.const (.bool false)))]) .ret))))
theorem sIsMatch.ir : IrAt Tryz.prog 34 sIsMatch.code [0, 1, 2, 3, 5, 6, 7, 8] [.tmp 6] Tryz.f34.ntmps := ir_ Tryz.func34
abbrev sIsMatch.Ret (args : List AV) (r : AV) (frs : Fr) : Prop := Abs.Ret true Tryz.prog 34 args r frs
def pIsMatch.code : ACode := (q_ (r_ [s 3 (.box (t 0)), s 5 (.box (t 2)), s 6 (.mv (.const (.bool false)))]) (q_ (r_ [s 7 (a_ 4 3), v_ 8 1, s 9 (.call 23 [(t 7), (t 8)]), s 10 (.clo 75 [] [(t 5)]), s 11 (.call 74 [(t 9), (t 10)]), v_ 6 11]) .ret))
theorem pIsMatch.ir : IrAt Tryz.prog 36 pIsMatch.code [0, 1, 2, 3, 5, 6] [.tmp 6] Tryz.f36.ntmps := ir_ Tryz.func36
abbrev pIsMatch.RetN (args : List AV) (r : AV) (frs : Fr) : Prop := Abs.Ret false Tryz.prog 36 args r frs
def sNext.code : ACode := (q_ (r_ [s 4 (.box (t 1)), s 6 (.mv (.const (.slice none 0 0)))]) (q_ (r_ [s 12 (.bslice 90 2 true []), v_ 7 12]) (q_ (.seq (r_ [s 8 (.mv (i_ 0))]) (.block 0 (.loop (q_ (.seq (r_ [v_ 13 8, v_ 14 0, s 15 (.len false (t 14)), s 16 (.bin .lss (t 13) (t 15))]) (.cond (t 16) .skip (.exit 0))) (q_ (.block 1 (q_ (.seq (r_ [s 19 (f_ 0 4), s 20 (l_ 19), s 21 (.bin .neq (t 20) (i_ 1))]) (.cond (t 21) (q_ (.seq (.region true [s 22 (a_ 5 4), v_ 23 0, v_ 24 8, s 25 (.iadr 2 (t 23) (t 24)), s 26 (f_ 1 25), s 27 (l_ 26), v_ 28 2, s 29 (.call 127 [(t 22), (t 27), (t 28)])]) (.cond (t 29) (r_ [v_ 30 7, v_ 31 0, v_ 32 8, s 33 (.iadr 2 (t 31) (t 32)), s 34 (a_ 2 33), s 35 (.call 128 [(t 34)]), s 36 (.bslice 90 2 false [(t 35)]), s 37 (.append 90 2 48 (t 30) (t 36)), v_ 7 37]) .skip)) (.exit 1)) .skip)) (q_ (r_ [s 9 (.mv (i_ 0))]) (.block 2 (.loop (q_ (.seq (r_ [v_ 38 9, v_ 39 2, s 40 (.len false (t 39)), s 41 (.bin .lss (t 38) (t 40))]) (.cond (t 41) .skip (.exit 2))) (q_ (.block 3 (q_ (.held [s 45 (f_ 1 4), s 46 (a_ 2 45), v_ 47 2, v_ 48 9, s 49 (.iadr 2 (t 47) (t 48)), s 50 (a_ 2 49), v_ 51 0, v_ 52 8, s 53 (.iadr 2 (t 51) (t 52)), s 54 (f_ 1 53), s 55 (l_ 54), s 56 (.call 129 [(t 46), (t 50), (t 55)]), v_ 44 56, s 57 (.extract (t 44) 0), s 58 (.extract (t 44) 1), v_ 10 57] [v_ 11 58]) (q_ (r_ [v_ 59 11]) (.cond (t 59) (.held [v_ 60 7, v_ 61 0, v_ 62 8, s 63 (.iadr 2 (t 61) (t 62)), s 64 (f_ 0 63), s 65 (l_ 64), v_ 67 2, v_ 68 9, s 69 (.iadr 2 (t 67) (t 68)), s 70 (a_ 2 69), v_ 74 10, s 66 (.call 130 [(t 65)]), s 71 (.call 131 [(t 70)]), s 72 (.bslice 86 2 false [(t 71)]), s 73 (.append 86 2 40 (t 66) (t 72)), s 75 (.build [(.slice none 0 0), (.slice none 0 0)] [(0, 1), (1, 1)] [(t 73), (t 74)]), s 76 (.bslice 90 2 false [(t 75)])] [s 77 (.append 90 2 48 (t 60) (t 76)), v_ 7 77]) .skip)))) (r_ [v_ 42 9, s 43 (.bin .add (t 42) (i_ 1)), v_ 9 43])))))))) (r_ [v_ 17 8, s 18 (.bin .add (t 17) (i_ 1)), v_ 8 18])))))) (q_ (r_ [v_ 78 7, v_ 6 78]) .ret))))
theorem sNext.ir : IrAt Tryz.prog 93 sNext.code [0, 1, 2, 4, 6, 7, 8, 9, 10, 11] [.tmp 6] Tryz.f93.ntmps := ir_ Tryz.func93
abbrev sNext.Own (args : List AV) (x : Tr) : Prop := Abs.Own true Tryz.prog 93 args x
def sCopyT.code : ACode := (q_ (r_ [s 1 (.box (t 0)), s 2 (.alloc [(.slice none 0 0), (.slice none 0 0)])]) (q_ (.held [s 3 (f_ 0 1), s 4 (l_ 3), s 6 (f_ 1 1), s 7 (l_ 6), s 5 (.call 130 [(t 4)])] [s 8 (.call 164 [(t 7)]), s 9 (.build [(.slice none 0 0), (.slice none 0 0)] [(0, 1), (1, 1)] [(t 5), (t 8)]), ⟨none, none, (.store 2 (t 2) (t 9))⟩]) .ret))
theorem sCopyT.ir : IrAt Tryz.prog 128 sCopyT.code [0, 1, 2] [.cell 2 true 2] Tryz.f128.ntmps := ir_ Tryz.func128
abbrev sCopyT.Own (args : List AV) (x : Tr) : Prop := Abs.Own true Tryz.prog 128 args x
def sTokens.code : ACode := (q_ (r_ [s 4 (.mv (.const (.slice none 0 0)))]) (q_ (r_ [s 7 (.build [(.slice none 0 0), (.slice none 0 0)] [] []), s 8 (.bslice 90 2 true [(t 7)]), v_ 5 8]) (q_ (.seq (r_ [s 6 (.mv (i_ 0))]) (.block 0 (.loop (q_ (.seq (r_ [v_ 9 6, v_ 10 0, s 11 (.len false (t 10)), s 12 (.bin .lss (t 9) (t 11))]) (.cond (t 12) .skip (.exit 0))) (q_ (.block 1 (r_ [v_ 15 5, v_ 16 0, v_ 17 6, s 18 (.iadr 5 (t 16) (t 17)), s 19 (a_ 5 18), v_ 20 1, s 21 (.call 93 [(t 15), (t 19), (t 20)]), v_ 5 21])) (r_ [v_ 13 6, s 14 (.bin .add (t 13) (i_ 1)), v_ 6 14])))))) (q_ (r_ [v_ 22 5, v_ 4 22]) .ret))))
theorem sTokens.ir : IrAt Tryz.prog 51 sTokens.code [0, 1, 4, 5, 6] [.tmp 4] Tryz.f51.ntmps := ir_ Tryz.func51
abbrev sTokens.Own (args : List AV) (x : Tr) : Prop := Abs.Own true Tryz.prog 51 args x
def sSameBinding.code : ACode := (q_ (r_ [s 4 (.mv (.const (.bool false)))]) (q_ (.seq (r_ [v_ 6 0, s 7 (.len false (t 6)), v_ 8 1, s 9 (.len false (t 8)), s 10 (.bin .neq (t 7) (t 9))]) (.cond (t 10) (q_ (r_ [s 4 (.mv (.const (.bool false)))]) .ret) .skip)) (q_ (.seq (r_ [s 5 (.mv (i_ 0))]) (.block 0 (.loop (q_ (.seq (r_ [v_ 11 5, v_ 12 0, s 13 (.len false (t 12)), s 14 (.bin .lss (t 11) (t 13))]) (.cond (t 14) .skip (.exit 0))) (q_ (.block 1 (q_ (.region true [v_ 17 0, v_ 18 5, s 19 (.iadr 2 (t 17) (t 18)), s 20 (a_ 2 19), v_ 21 1, v_ 22 5, s 23 (.iadr 2 (t 21) (t 22)), s 24 (a_ 2 23), s 25 (.eqs true [0, 0] (t 20) (t 24))]) (.cond (t 25) (q_ (r_ [s 4 (.mv (.const (.bool false)))]) .ret) .skip))) (r_ [v_ 15 5, s 16 (.bin .add (t 15) (i_ 1)), v_ 5 16])))))) (q_ (r_ [s 4 (.mv (.const (.bool true)))]) .ret))))
theorem sSameBinding.ir : IrAt Tryz.prog 113 sSameBinding.code [0, 1, 4, 5] [.tmp 4] Tryz.f113.ntmps := ir_ Tryz.func113
abbrev sSameBinding.Ret (args : List AV) (r : AV) (frs : Fr) : Prop := Abs.Ret true Tryz.prog 113 args r frs
def ptokensOfConds.code : ACode := (q_ (r_ [s 4 (.mv (.const (.slice none 0 0)))]) (q_ (r_ [v_ 9 0, s 10 (.len false (t 9)), s 11 (.bin .sub (t 10) (i_ 1)), v_ 5 11]) (q_ (.seq (r_ [v_ 12 5, s 13 (.bin .lss (t 12) (i_ 0))]) (.cond (t 13) (q_ (r_ [s 14 (.build [(.slice none 0 0), (.slice none 0 0)] [] []), s 15 (.bslice 90 2 true [(t 14)]), v_ 4 15]) .ret) .skip)) (q_ (r_ [s 16 (.bslice 90 2 true []), v_ 6 16]) (q_ (.seq (r_ [v_ 17 0, v_ 18 5, s 19 (.slice false 5 (t 17) none (some (t 18))), v_ 20 1, s 21 (.call 57 [(t 19), (t 20)]), s 22 (.len false (t 21)), s 23 (.mv (i_ 0))]) (.block 0 (.loop (q_ (r_ [s 24 (.bin .lss (t 23) (t 22))]) (q_ (.cond (t 24) .skip (.exit 0)) (q_ (.block 1 (q_ (r_ [s 25 (.iadr 2 (t 21) (t 23)), s 26 (a_ 2 25), s 8 (.alloc [(.slice none 0 0), (.slice none 0 0)]), ⟨none, none, (.store 2 (t 8) (t 26))⟩]) (.held [v_ 27 6, s 28 (a_ 2 8), v_ 29 0, v_ 30 5, s 31 (.iadr 5 (t 29) (t 30)), s 32 (a_ 5 31), v_ 33 1, s 34 (.call 104 [(t 28), (t 32), (t 33)])] [s 35 (.append 90 2 48 (t 27) (t 34)), v_ 6 35]))) (r_ [s 36 (.bin .add (t 23) (i_ 1)), v_ 23 36]))))))) (q_ (r_ [v_ 37 6, v_ 4 37]) .ret))))))
theorem ptokensOfConds.ir : IrAt Tryz.prog 57 ptokensOfConds.code [0, 1, 4, 5, 6, 8, 21, 22, 23, 24] [.tmp 4] Tryz.f57.ntmps := ir_ Tryz.func57
abbrev ptokensOfConds.OwnN (args : List AV) (x : Tr) : Prop := Abs.Own false Tryz.prog 57 args x
def ptokensBehind.code : ACode := (q_ (r_ [s 3 (.box (t 0)), s 4 (.box (t 1)), s 6 (.mv (.const (.slice none 0 0)))]) (q_ (r_ [s 12 (.bslice 90 2 true []), v_ 7 12]) (q_ (.seq (r_ [s 13 (f_ 0 4), s 14 (l_ 13), s 15 (.bin .neq (t 14) (i_ 1))]) (.cond (t 15) (q_ (.seq (r_ [s 16 (a_ 5 4), s 17 (f_ 1 3), s 18 (l_ 17), v_ 19 2, s 20 (.call 150 [(t 16), (t 18), (t 19)])]) (.cond (t 20) (r_ [v_ 21 7, s 22 (a_ 2 3), s 23 (.bslice 90 2 false [(t 22)]), s 24 (.append 90 2 48 (t 21) (t 23)), v_ 7 24]) .skip)) (q_ (r_ [v_ 25 7, v_ 6 25]) .ret)) .skip)) (q_ (.seq (r_ [v_ 26 2, s 27 (.len false (t 26)), s 28 (.mv (i_ 0))]) (.block 0 (.loop (q_ (r_ [s 29 (.bin .lss (t 28) (t 27))]) (q_ (.cond (t 29) .skip (.exit 0)) (q_ (.block 1 (q_ (r_ [s 30 (.iadr 2 (t 26) (t 28)), s 31 (a_ 2 30), s 9 (.alloc [(.string (.mk (.mk []))), (.slice none 0 0)]), ⟨none, none, (.store 2 (t 9) (t 31))⟩]) (q_ (r_ [s 33 (f_ 1 4), s 34 (a_ 2 33), s 35 (a_ 2 9), s 36 (f_ 1 3), s 37 (l_ 36), s 38 (.call 151 [(t 34), (t 35), (t 37)]), v_ 32 38, s 39 (.extract (t 32) 0), s 40 (.extract (t 32) 1), v_ 10 39, v_ 11 40]) (q_ (r_ [v_ 41 11]) (.cond (t 41) (.held [v_ 42 7, s 43 (f_ 0 3), s 44 (l_ 43), s 46 (a_ 2 9), v_ 50 10, s 45 (.call 152 [(t 44)]), s 47 (.call 153 [(t 46)]), s 48 (.bslice 86 2 false [(t 47)]), s 49 (.append 86 2 40 (t 45) (t 48)), s 51 (.build [(.slice none 0 0), (.slice none 0 0)] [(0, 1), (1, 1)] [(t 49), (t 50)]), s 52 (.bslice 90 2 false [(t 51)])] [s 53 (.append 90 2 48 (t 42) (t 52)), v_ 7 53]) .skip))))) (r_ [s 54 (.bin .add (t 28) (i_ 1)), v_ 28 54]))))))) (q_ (r_ [v_ 55 7, v_ 6 55]) .ret)))))
theorem ptokensBehind.ir : IrAt Tryz.prog 104 ptokensBehind.code [0, 1, 2, 3, 4, 6, 7, 9, 10, 11, 26, 27, 28, 29] [.tmp 6] Tryz.f104.ntmps := ir_ Tryz.func104
abbrev ptokensBehind.OwnN (args : List AV) (x : Tr) : Prop := Abs.Own false Tryz.prog 104 args x
abbrev ptokensBehind.RetN (args : List AV) (r : AV) (frs : Fr) : Prop := Abs.Ret false Tryz.prog 104 args r frs
def pIsMatchClo.code : ACode := (q_ (r_ [s 2 (.box (t 0)), s 3 (.mv (.const (.bool false)))]) (q_ (r_ [s 4 (a_ 3 2), s 5 (a_ 3 1), s 6 (.call 76 [(t 4), (t 5)]), v_ 3 6]) .ret))
theorem pIsMatchClo.ir : IrAt Tryz.prog 75 pIsMatchClo.code [0, 1, 2, 3] [.tmp 3] Tryz.f75.ntmps := ir_ Tryz.func75
abbrev pIsMatchClo.Ret (args : List AV) (r : AV) (frs : Fr) : Prop := Abs.Ret true Tryz.prog 75 args r frs
def slContainsFuncM.code : ACode := (q_ (r_ [s 4 (.mv (.const (.bool false)))]) (q_ (r_ [v_ 5 0, v_ 6 1, s 7 (.call 115 [(t 5), (t 6)]), s 8 (.bin .geq (t 7) (i_ 0)), v_ 4 8]) .ret))
theorem slContainsFuncM.ir : IrAt Tryz.prog 74 slContainsFuncM.code [0, 1, 4] [.tmp 4] Tryz.f74.ntmps := ir_ Tryz.func74
abbrev slContainsFuncM.Ret (args : List AV) (r : AV) (frs : Fr) : Prop := Abs.Ret true Tryz.prog 74 args r frs
abbrev slContainsFuncM.RetN (args : List AV) (r : AV) (frs : Fr) : Prop := Abs.Ret false Tryz.prog 74 args r frs
def slIndexFuncM.code : ACode := (q_ (r_ [s 4 (.mv (i_ 0))]) (q_ (.seq (r_ [v_ 6 0, s 7 (.len false (t 6)), s 8 (.mv (i_ 0))]) (.block 0 (.loop (q_ (r_ [s 9 (.bin .lss (t 8) (t 7))]) (q_ (.cond (t 9) .skip (.exit 0)) (q_ (.block 1 (q_ (r_ [v_ 10 8, v_ 5 10]) (q_ (r_ [v_ 11 1, v_ 12 0, v_ 13 5, s 14 (.iadr 3 (t 12) (t 13)), s 15 (a_ 3 14), s 16 (.callv (t 11) [(t 15)])]) (.cond (t 16) (q_ (r_ [v_ 17 5, v_ 4 17]) .ret) .skip)))) (r_ [s 18 (.bin .add (t 8) (i_ 1)), v_ 8 18]))))))) (q_ (r_ [s 4 (.mv (.const (.int .i64 (-1))))]) .ret)))
theorem slIndexFuncM.ir : IrAt Tryz.prog 115 slIndexFuncM.code [0, 1, 4, 5, 7, 8, 9] [.tmp 4] Tryz.f115.ntmps := ir_ Tryz.func115
abbrev slIndexFuncM.Ret (args : List AV) (r : AV) (frs : Fr) : Prop := Abs.Ret true Tryz.prog 115 args r frs
def slEqualP.code : ACode := (q_ (r_ [s 4 (.mv (.const (.bool false)))]) (q_ (.seq (r_ [v_ 6 0, s 7 (.len false (t 6)), v_ 8 1, s 9 (.len false (t 8)), s 10 (.bin .neq (t 7) (t 9))]) (.cond (t 10) (q_ (r_ [s 4 (.mv (.const (.bool false)))]) .ret) .skip)) (q_ (.seq (r_ [v_ 11 0, s 12 (.len false (t 11)), s 13 (.mv (i_ 0))]) (.block 0 (.loop (q_ (r_ [s 14 (.bin .lss (t 13) (t 12))]) (q_ (.cond (t 14) .skip (.exit 0)) (q_ (.block 1 (q_ (r_ [v_ 15 13, v_ 5 15]) (q_ (.region true [v_ 16 0, v_ 17 5, s 18 (.iadr 2 (t 16) (t 17)), s 19 (a_ 2 18), v_ 20 1, v_ 21 5, s 22 (.iadr 2 (t 20) (t 21)), s 23 (a_ 2 22), s 24 (.eqs true [0, 0] (t 19) (t 23))]) (.cond (t 24) (q_ (r_ [s 4 (.mv (.const (.bool false)))]) .ret) .skip)))) (r_ [s 25 (.bin .add (t 13) (i_ 1)), v_ 13 25]))))))) (q_ (r_ [s 4 (.mv (.const (.bool true)))]) .ret))))
theorem slEqualP.ir : IrAt Tryz.prog 117 slEqualP.code [0, 1, 4, 5, 12, 13, 14] [.tmp 4] Tryz.f117.ntmps := ir_ Tryz.func117
abbrev slEqualP.Ret (args : List AV) (r : AV) (frs : Fr) : Prop := Abs.Ret true Tryz.prog 117 args r frs
end Go.Proofs.YtoindmahilbalaaGreat
namespace Go.Proofs.YtoindmahilbalaaGreat
namespace Abs
variable {α : Type}
theorem rows_snoc (T : Ty α) (l : List α) (a : α) : rows T l ++ [oldL (T.q a)] = rows T (l ++ [a]) := by simp [rows, oldLL_eq, oldL_eq]
theorem rows_cut (T : Ty α) (l : List α) : ∀ c ∈ rows T l, c.length = T.sz := oldLL_sz T.hq
theorem plain_ownA (T : Ty α) (hf : ∀ a, T.fr a = []) (e : ∀ a, T.tk a 0 = oldL (T.q a)) (F : Fr) (t k : Nat) (l : List α) (hk : F[k]? = some (t, T.sz, l.length)) {xs : List Tr} {cs : List AV} (h : OwnA F xs cs []) :
    OwnA F (.l t T.sz (l.map T.q) :: xs) (.list (some k) (rows T l) :: cs) [k] := by
  have h3 := own_plain T hf 0 F l
  have e2 : (l.map fun a => T.tk a 0) = rows T l := by rw [rows, oldLL_eq, List.map_map]; exact List.map_congr_left fun a _ => by rw [e, oldL_eq]; rfl
  rw [e2] at h3
  exact .l t T.sz _ k _ (by rw [hk, List.length_map]) (by simp) (fun e he => by obtain ⟨a, _, rfl⟩ := List.mem_map.1 he; exact T.hq a) (rows_cut T l) h3 h
end Abs
end Go.Proofs.YtoindmahilbalaaGreat
namespace Go.Proofs.YtoindmahilbalaaGreat
open Abs
abbrev VMatch := Str × List Fct × List VPair
instance : DecidableEq VMatch := instDecidableEqProd
def tMatch : Ty VMatch := Ty.pair Ty.str (Ty.pair tFcts tPairs)
theorem tMatch_size (a : VMatch) : tMatch.size a = a.1.length + (tFcts.size a.2.1 + tPairs.size a.2.2) := rfl
theorem toMatch.ret (a : VMatch) (h : tMatch.size a ≤ 1048576) : toMatch.Ret [.agg (oldL (tMatch.q a))] (.agg (tMatch.tk a 0)) (tMatch.fr a) := by
  refine toMatch.ir.of rfl ?_
  rw [tMatch_size] at h
  repeat' first
    | (conv => whnf
       first | refine Need.mk ⟨rfl, Nat.le_of_ble_eq_true rfl⟩ ?_ | refine nb_ ?_ | refine FinAgg.keep ?_ | refine Final.mk ?_ rfl | refine ACall.mk_FactS _ _ (toFactS.ret _ ?_) (by repeat' first | exact SeesL.nil | refine SeesL.cons ?_ ?_ | exact SeesB.of0 (Sees0.val _) | exact SeesB.of0 (Sees0.str _) | exact SeesB.of0 (Sees0.olds _ _) | exact SeesB.of0 (Sees0.old _) | exact SeesB.of0 (Sees0.oldagg _) | exact SeesB.of0 Sees0.nil | exact Sees0.val _ | exact Sees0.str _ | exact Sees0.olds _ _ | exact Sees0.old _ | exact Sees0.oldagg _ | exact Sees0.nil | exact SeesB.of0 (Sees0.any _) | assumption | exact sees_gv _ _ _ (by assumption) (by first | assumption | exact BoxIn.last _ _ | exact BoxIn.more (BoxIn.last _ _) _) | refine SeesB.agg ?_ | refine Sees0.agg ?_ | exact SeesB.of0 (Sees0.clo SeesL.nil SeesL.nil) | exact Sees0.clo SeesL.nil SeesL.nil | exact SeesB.of0 (Sees0.list rfl) | exact Sees0.list rfl) ?_ | refine ACall.mk_PairS _ _ (toPairS.ret _ ?_) (by repeat' first | exact SeesL.nil | refine SeesL.cons ?_ ?_ | exact SeesB.of0 (Sees0.val _) | exact SeesB.of0 (Sees0.str _) | exact SeesB.of0 (Sees0.olds _ _) | exact SeesB.of0 (Sees0.old _) | exact SeesB.of0 (Sees0.oldagg _) | exact SeesB.of0 Sees0.nil | exact Sees0.val _ | exact Sees0.str _ | exact Sees0.olds _ _ | exact Sees0.old _ | exact Sees0.oldagg _ | exact Sees0.nil | exact SeesB.of0 (Sees0.any _) | assumption | exact sees_gv _ _ _ (by assumption) (by first | assumption | exact BoxIn.last _ _ | exact BoxIn.more (BoxIn.last _ _) _) | refine SeesB.agg ?_ | refine Sees0.agg ?_ | exact SeesB.of0 (Sees0.clo SeesL.nil SeesL.nil) | exact Sees0.clo SeesL.nil SeesL.nil | exact SeesB.of0 (Sees0.list rfl) | exact Sees0.list rfl) ?_)
  all_goals first
    | omega
    | (refine congrArg AV.agg ?_
       repeat' first
         | refine cons_congr ?_ ?_
         | refine tok_congr ?_ ?_
         | refine congrArg (tks _ _) ?_
         | rfl
       all_goals (simp [Ty.pair, Ty.str, Ty.int, Ty.bool, Nat.add_assoc, Ty.plain, tPairs]; done))
    | (simp [tMatch, Ty.pair, Ty.str, Ty.int, Ty.bool, List.append_assoc, Nat.add_assoc, Ty.plain, tPairs]; done)
theorem toMatch.own (a : VMatch) (h : tMatch.size a ≤ 1048576) : toMatch.Own [.agg (oldL (tMatch.q a))] (.a (tMatch.q a)) := Ty.ownA tMatch (toMatch.ret a h)
theorem szMatch.ret (f : VMatch) (a : Int) (h0 : 0 ≤ a) (ha : a ≤ 1048576) (hb : tMatch.bd f) :
    szMatch.Ret [.agg (oldL (tMatch.q f)), .val (.int .i64 a)] (.val (.int .i64 (left a (tMatch.size f)))) [] := by
  refine szMatch.ir.of rfl ?_
  have hz := tMatch_size f
  obtain ⟨hb0, hb1, hb2⟩ := hb
  have hb0 : f.1.length ≤ 9223372036854775807 := hb0
  by_cases c1 : a < (f.1.length : Int)
  · have e0 : IntKind.i64.wrap (a - (f.1.length : Int)) = a - (f.1.length : Int) := by rw [wrap64 (by omega) (by omega)]
    repeat' first
      | (conv => whnf
         first | refine Need.mk rfl ?_ | refine Fork.decYes (by omega) ?_ | refine FinVal.keep ?_ | refine Final.mk ?_ rfl)
      | refine AV.int_congr ?_
    all_goals first
      | assumption
      | omega
      | exact left_eq (by omega)
  by_cases c2 : a < (f.1.length : Int) + (tFcts.size f.2.1 : Int)
  · have e0 : IntKind.i64.wrap (a - (f.1.length : Int)) = a - (f.1.length : Int) := by rw [wrap64 (by omega) (by omega)]
    have e1 : left (IntKind.i64.wrap (a - (f.1.length : Int))) (tFcts.size f.2.1) = -1 := by rw [e0, left, if_pos (by omega)]
    repeat' first
      | (conv => whnf
         first | refine Need.mk rfl ?_ | refine Fork.decYes (by omega) ?_ | refine Fork.decNo (by omega) ?_ | refine FinVal.keep ?_ | refine Final.mk ?_ rfl | refine ACall.scalA _ _ (szFactS.ret _ _ ?_ ?_ ?_) rfl ?_)
      | refine AV.int_congr ?_
    all_goals first
      | assumption
      | omega
      | exact left_eq (by omega)
  by_cases c3 : a < (f.1.length : Int) + (tFcts.size f.2.1 : Int) + (tPairs.size f.2.2 : Int)
  · have e0 : IntKind.i64.wrap (a - (f.1.length : Int)) = a - (f.1.length : Int) := by rw [wrap64 (by omega) (by omega)]
    have e1 : left (IntKind.i64.wrap (a - (f.1.length : Int))) (tFcts.size f.2.1) = a - (f.1.length : Int) - (tFcts.size f.2.1 : Int) := by rw [e0, left, if_neg (by omega)]
    have e2 : left (left (IntKind.i64.wrap (a - (f.1.length : Int))) (tFcts.size f.2.1)) (tPairs.size f.2.2) = -1 := by rw [e1, left, if_pos (by omega)]
    repeat' first
      | (conv => whnf
         first | refine Need.mk rfl ?_ | refine Fork.decYes (by omega) ?_ | refine Fork.decNo (by omega) ?_ | refine FinVal.keep ?_ | refine Final.mk ?_ rfl | refine ACall.scalA _ _ (szFactS.ret _ _ ?_ ?_ ?_) rfl ?_ | refine ACall.scalA _ _ (szPairS.ret _ _ ?_ ?_ ?_) rfl ?_)
      | refine AV.int_congr ?_
    all_goals first
      | assumption
      | omega
      | exact left_eq (by omega)
  have e0 : IntKind.i64.wrap (a - (f.1.length : Int)) = a - (f.1.length : Int) := by rw [wrap64 (by omega) (by omega)]
  have e1 : left (IntKind.i64.wrap (a - (f.1.length : Int))) (tFcts.size f.2.1) = a - (f.1.length : Int) - (tFcts.size f.2.1 : Int) := by rw [e0, left, if_neg (by omega)]
  have e2 : left (left (IntKind.i64.wrap (a - (f.1.length : Int))) (tFcts.size f.2.1)) (tPairs.size f.2.2) = a - (f.1.length : Int) - (tFcts.size f.2.1 : Int) - (tPairs.size f.2.2 : Int) := by rw [e1, left, if_neg (by omega)]
  repeat' first
    | (conv => whnf
       first | refine Need.mk rfl ?_ | refine Fork.decNo (by omega) ?_ | refine FinVal.keep ?_ | refine Final.mk ?_ rfl | refine ACall.scalA _ _ (szFactS.ret _ _ ?_ ?_ ?_) rfl ?_ | refine ACall.scalA _ _ (szPairS.ret _ _ ?_ ?_ ?_) rfl ?_)
    | refine AV.int_congr ?_
  all_goals first
    | assumption
    | omega
    | exact left_eq (by omega)
theorem eqMatch.big (f g : VMatch) (h : tMatch.size f ≤ 1099511627775) : eqMatch.Ret [.agg (oldL (tMatch.q f)), .agg (oldL (tMatch.q g))] (.val (.bool (decide (f = g)))) [] := by
  refine eqMatch.ir.of rfl ?_
  have hz := tMatch_size f
  repeat' first
    | (conv => whnf
       first | refine Fork.sne (fun _ => ?_) (fun _ => ?_) | refine Fork.neg (fun _ => ?_) (fun _ => ?_) | refine FinVal.keep ?_ | refine Final.mk ?_ rfl | refine ACall.scalA _ _ (eqFactS.big _ _ ?_) rfl ?_ | refine ACall.scalA _ _ (eqPairS.big _ _ ?_) rfl ?_)
    | refine AV.bool_congr ?_
  all_goals first
    | omega
    | (simp only [tStrs_size, tInts_size] at *; omega)
    | (obtain ⟨x0, x1, x2⟩ := f; obtain ⟨y0, y1, y2⟩ := g; simp_all)
end Go.Proofs.YtoindmahilbalaaGreat
namespace Go.Proofs.YtoindmahilbalaaGreat
open Abs
set_option maxRecDepth 20000 in
set_option maxHeartbeats 4000000 in
theorem lawExactIsMatch.of_ret (a0 : VRule) (a1 : List Fct) (a2 : VMatch) (hb0 : tRule.bd a0) (hb1 : tFcts.bd a1) (hb2 : tMatch.bd a2)
    (h : tRule.size a0 + tFcts.size a1 + tMatch.size a2 ≤ 1048576 → ∃ (r0 : Bool), sIsMatch.Ret [.agg (oldL (tRule.q a0)), .list none (rows tFct a1), .agg (oldL (tMatch.q a2))] (.val (.bool r0)) [] ∧ pIsMatch.RetN [.agg (oldL (tRule.q a0)), .list none (rows tFct a1), .agg (oldL (tMatch.q a2))] (.val (.bool r0)) []) :
    lawExactIsMatch.RetN [.agg (oldL (tRule.q a0)), .list none (rows tFct a1), .agg (oldL (tMatch.q a2))] (.val (.bool true)) [] := by
  refine lawExactIsMatch.ir.ofS rfl rfl ?_
  by_cases c1 : (1048576 : Int) < (tRule.size a0 : Int)
  · have e0 : left 1048576 (tRule.size a0) = -1 := by rw [left, if_pos (by omega)]
    repeat' first
      | (conv => whnf
         first | refine Need.mk rfl ?_ | refine nb_ ?_ | refine Fork.decYes (by omega) ?_ | refine FinVal.keep ?_ | refine Final.mk rfl rfl | refine ACall.scalA _ _ (Ret.weak (szRule.ret _ _ ?_ ?_ ?_)) rfl ?_)
    all_goals first
      | assumption
      | omega
  by_cases c2 : (1048576 : Int) < (tRule.size a0 : Int) + (tFcts.size a1 : Int)
  · have e0 : left 1048576 (tRule.size a0) = 1048576 - (tRule.size a0 : Int) := by rw [left, if_neg (by omega)]
    have e1 : left (left 1048576 (tRule.size a0)) (tFcts.size a1) = -1 := by rw [e0, left, if_pos (by omega)]
    repeat' first
      | (conv => whnf
         first | refine Need.mk rfl ?_ | refine nb_ ?_ | refine Fork.decYes (by omega) ?_ | refine Fork.decNo (by omega) ?_ | refine FinVal.keep ?_ | refine Final.mk rfl rfl | refine ACall.scalA _ _ (Ret.weak (szRule.ret _ _ ?_ ?_ ?_)) rfl ?_ | refine ACall.scalA _ _ (Ret.weak (szFactS.ret _ _ ?_ ?_ ?_)) rfl ?_)
    all_goals first
      | assumption
      | omega
  by_cases c3 : (1048576 : Int) < (tRule.size a0 : Int) + (tFcts.size a1 : Int) + (tMatch.size a2 : Int)
  · have e0 : left 1048576 (tRule.size a0) = 1048576 - (tRule.size a0 : Int) := by rw [left, if_neg (by omega)]
    have e1 : left (left 1048576 (tRule.size a0)) (tFcts.size a1) = 1048576 - (tRule.size a0 : Int) - (tFcts.size a1 : Int) := by rw [e0, left, if_neg (by omega)]
    have e2 : left (left (left 1048576 (tRule.size a0)) (tFcts.size a1)) (tMatch.size a2) = -1 := by rw [e1, left, if_pos (by omega)]
    repeat' first
      | (conv => whnf
         first | refine Need.mk rfl ?_ | refine nb_ ?_ | refine Fork.decYes (by omega) ?_ | refine Fork.decNo (by omega) ?_ | refine FinVal.keep ?_ | refine Final.mk rfl rfl | refine ACall.scalA _ _ (Ret.weak (szRule.ret _ _ ?_ ?_ ?_)) rfl ?_ | refine ACall.scalA _ _ (Ret.weak (szFactS.ret _ _ ?_ ?_ ?_)) rfl ?_ | refine ACall.scalA _ _ (Ret.weak (szMatch.ret _ _ ?_ ?_ ?_)) rfl ?_)
    all_goals first
      | assumption
      | omega
  have e0 : left 1048576 (tRule.size a0) = 1048576 - (tRule.size a0 : Int) := by rw [left, if_neg (by omega)]
  have e1 : left (left 1048576 (tRule.size a0)) (tFcts.size a1) = 1048576 - (tRule.size a0 : Int) - (tFcts.size a1 : Int) := by rw [e0, left, if_neg (by omega)]
  have e2 : left (left (left 1048576 (tRule.size a0)) (tFcts.size a1)) (tMatch.size a2) = 1048576 - (tRule.size a0 : Int) - (tFcts.size a1 : Int) - (tMatch.size a2 : Int) := by rw [e1, left, if_neg (by omega)]
  obtain ⟨r0, hs, hp⟩ := h (by omega)
  repeat' first
    | (conv => whnf
       first | refine Need.mk rfl ?_ | refine Need.mk ⟨rfl, Nat.le_of_ble_eq_true rfl⟩ ?_ | refine nb_ ?_ | refine Fork.decNo (by omega) ?_ | refine Fork.neg (fun _ => ?_) (fun _ => ?_) | refine FinVal.keep ?_ | refine Final.mk rfl rfl | refine Final.mk ?_ rfl | refine ACall.scalA _ _ (Ret.weak (szRule.ret _ _ ?_ ?_ ?_)) rfl ?_ | refine ACall.scalA _ _ (Ret.weak (szFactS.ret _ _ ?_ ?_ ?_)) rfl ?_ | refine ACall.scalA _ _ (Ret.weak (szMatch.ret _ _ ?_ ?_ ?_)) rfl ?_ | refine ACall.scalA _ _ (Ret.weak (hs)) rfl ?_ | refine ACall.scalA _ _ (hp) rfl ?_ | refine ACall.oldA _ _ (Own.weak (toRule.own _ ?_)) ?_ | refine ACall.scalA _ _ (Ret.weak (eqRule.big _ _ ?_)) rfl ?_ | refine ACall.oldA _ _ (Own.weak (toFactS.own _ ?_)) ?_ | refine ACall.scalA _ _ (Ret.weak (eqFactS.big _ _ ?_)) rfl ?_ | refine ACall.oldA _ _ (Own.weak (toMatch.own _ ?_)) ?_ | refine ACall.scalA _ _ (Ret.weak (eqMatch.big _ _ ?_)) rfl ?_)
    | refine AV.bool_congr ?_
  all_goals first
    | assumption
    | omega
    | contradiction
    | (rename_i hx; simp at hx; done)
    | (rename_i hx _; simp at hx; done)
end Go.Proofs.YtoindmahilbalaaGreat
namespace Go.Proofs.YtoindmahilbalaaGreat
open Abs
def tInts : Ty (List Int) := Ty.plain 3 Ty.int (fun _ => rfl) (fun _ => rfl)
theorem tInts_size (l : List Int) : tInts.size l = l.length + listSize Ty.int l := rfl
end Go.Proofs.YtoindmahilbalaaGreat
namespace Go.Proofs.YtoindmahilbalaaGreat
namespace Abs
open Go.RowKit
mutual
def tkT : Tr → Nat → AV
  | .v x, _ => .val x
  | .s x, _ => .str x
  | .l _ _ xs, n => .list (some (n + nbLL xs)) (tkLL xs n)
  | .a fs, n => .agg (tkL fs n)
  | .p fs, n => .tup (tkL fs n)
def tkL : List Tr → Nat → List AV
  | [], _ => []
  | x :: xs, n => tkT x n :: tkL xs (n + nb x)
def tkLL : List (List Tr) → Nat → List (List AV)
  | [], _ => []
  | x :: xs, n => tkL x n :: tkLL xs (n + nbL x)
end
mutual
def frT : Tr → Fr
  | .v _ => []
  | .s _ => []
  | .l t sz xs => frLL xs ++ [(t, sz, xs.length)]
  | .a fs => frL fs
  | .p fs => frL fs
def frL : List Tr → Fr
  | [] => []
  | x :: xs => frT x ++ frL xs
def frLL : List (List Tr) → Fr
  | [] => []
  | x :: xs => frL x ++ frLL xs
end
mutual
theorem length_frT : ∀ x : Tr, (frT x).length = nb x
  | .v _ => rfl
  | .s _ => rfl
  | .l _ _ xs => by rw [frT, nb, List.length_append, length_frLL xs]; rfl
  | .a fs => by rw [frT, nb, length_frL fs]
  | .p fs => by rw [frT, nb, length_frL fs]
theorem length_frL : ∀ x : List Tr, (frL x).length = nbL x
  | [] => rfl
  | x :: xs => by rw [frL, nbL, List.length_append, length_frT x, length_frL xs]
theorem length_frLL : ∀ x : List (List Tr), (frLL x).length = nbLL x
  | [] => rfl
  | x :: xs => by rw [frLL, nbLL, List.length_append, length_frL x, length_frLL xs]
end
theorem frL_append : ∀ xs ys, frL (xs ++ ys) = frL xs ++ frL ys
  | [], _ => rfl
  | x :: xs, ys => by rw [List.cons_append, frL, frL, frL_append xs, List.append_assoc]
theorem frLL_flatten : ∀ xs, frLL xs = frL xs.flatten
  | [] => rfl
  | x :: xs => by rw [frLL, List.flatten_cons, frL_append, frLL_flatten xs]
theorem tkL_append : ∀ xs ys n, tkL (xs ++ ys) n = tkL xs n ++ tkL ys (n + nbL xs)
  | [], ys, n => by rw [nbL]; rfl
  | x :: xs, ys, n => by rw [List.cons_append, tkL, tkL, tkL_append xs, nbL, Nat.add_assoc]; rfl
theorem tkLL_flatten : ∀ xs n, (tkLL xs n).flatten = tkL xs.flatten n
  | [], _ => rfl
  | x :: xs, n => by rw [tkLL, List.flatten_cons, List.flatten_cons, tkL_append, tkLL_flatten xs]
theorem length_tkL : ∀ xs n, (tkL xs n).length = xs.length
  | [], _ => rfl
  | x :: xs, n => by rw [tkL, List.length_cons, length_tkL xs]; rfl
theorem length_tkLL : ∀ xs n, (tkLL xs n).length = xs.length
  | [], _ => rfl
  | x :: xs, n => by rw [tkLL, List.length_cons, length_tkLL xs]; rfl
theorem tkLL_sz {sz : Nat} : ∀ xs n, (∀ e ∈ xs, e.length = sz) → ∀ e ∈ tkLL xs n, e.length = sz
  | [], _, _, e, he => by cases he
  | x :: xs, n, h, e, he => by
    rw [tkLL] at he
    rcases List.mem_cons.1 he with rfl | he
    · rw [length_tkL]; exact h x List.mem_cons_self
    · exact tkLL_sz xs _ (fun e he => h e (List.mem_cons_of_mem _ he)) e he
def TokOne (B : Nat) (w : World) (x : Tr) (v : Value) (d1 : List Nat) : Prop :=
  ∃ ids : List (Option Nat), ids.length = nb x ∧ (∀ (i b : Nat), ids[i]? = some (some b) → b ∈ d1) ∧ (d1.Nodup → ∀ (i j b : Nat), ids[i]? = some (some b) → ids[j]? = some (some b) → i = j) ∧
    ((∀ d ∈ d1, B ≤ d) → ∀ (n : Nat) (F : Nat → Nat) (tok : List (Option Nat)) (fr : Fr), (∀ (i : Nat) d, ids[i]? = some d → tok[n + i]? = some d) → (∀ (i : Nat) y, (frT x)[i]? = some y → fr[n + i]? = some y) →
      (∀ (i b t s m : Nat), ids[i]? = some (some b) → (frT x)[i]? = some (t, s, m) → F b = m * s) → ∀ box, Rep B w F tok fr box (tkT x n) v)
def TokAll (B : Nat) (w : World) (xs : List Tr) (vs : List Value) (d1 : List Nat) : Prop :=
  ∃ ids : List (Option Nat), ids.length = nbL xs ∧ (∀ (i b : Nat), ids[i]? = some (some b) → b ∈ d1) ∧ (d1.Nodup → ∀ (i j b : Nat), ids[i]? = some (some b) → ids[j]? = some (some b) → i = j) ∧
    ((∀ d ∈ d1, B ≤ d) → ∀ (n : Nat) (F : Nat → Nat) (tok : List (Option Nat)) (fr : Fr), (∀ (i : Nat) d, ids[i]? = some d → tok[n + i]? = some d) → (∀ (i : Nat) y, (frL xs)[i]? = some y → fr[n + i]? = some y) →
      (∀ (i b t s m : Nat), ids[i]? = some (some b) → (frL xs)[i]? = some (t, s, m) → F b = m * s) → ∀ (i : Nat) x v, (tkL xs n)[i]? = some x → vs[i]? = some v → ∀ box, Rep B w F tok fr box x v)
theorem TokAll.cons {B : Nat} {w : World} {x : Tr} {v : Value} {xs : List Tr} {vs : List Value} {d1 ds : List Nat} (h1 : TokOne B w x v d1) (h2 : TokAll B w xs vs ds) : TokAll B w (x :: xs) (v :: vs) (d1 ++ ds) := by
  obtain ⟨ids1, l1, m1, n1, r1⟩ := h1
  obtain ⟨ids2, l2, m2, n2, r2⟩ := h2
  refine ⟨ids1 ++ ids2, by rw [List.length_append, l1, l2, nbL], fun i b hi => ?_, fun hnd i j b hi hj => ?_, fun hB n F tok fr ht hf hF i y u hy hu box => ?_⟩
  · rw [List.getElem?_append] at hi
    split at hi
    · exact List.mem_append_left _ (m1 _ _ hi)
    · exact List.mem_append_right _ (m2 _ _ hi)
  · obtain ⟨e1, e2, e3⟩ := List.nodup_append.1 hnd
    rw [List.getElem?_append] at hi hj
    split at hi <;> split at hj
    · exact n1 e1 _ _ _ hi hj
    · exact absurd rfl (e3 b (m1 _ _ hi) b (m2 _ _ hj))
    · exact absurd rfl (e3 b (m1 _ _ hj) b (m2 _ _ hi))
    · have := n2 e2 _ _ _ hi hj; omega
  · have hfl : (frT x).length = ids1.length := by rw [length_frT, l1]
    cases i with
    | zero =>
      rw [tkL] at hy
      simp only [List.getElem?_cons_zero, Option.some.injEq] at hy hu
      subst hy; subst hu
      refine r1 (fun d hd => hB d (List.mem_append_left _ hd)) n F tok fr (fun i d hi => ht i d (by rw [List.getElem?_append_left (getElem?_lt hi)]; exact hi)) (fun i y hi => hf i y (by rw [frL, List.getElem?_append_left (getElem?_lt hi)]; exact hi)) (fun i b t s m hi hm => hF i b t s m ?_ ?_) box
      · rw [List.getElem?_append_left (getElem?_lt hi)]; exact hi
      · rw [frL, List.getElem?_append_left (getElem?_lt hm)]; exact hm
    | succ i =>
      rw [tkL] at hy
      refine r2 (fun d hd => hB d (List.mem_append_right _ hd)) (n + nb x) F tok fr (fun i d hi => ?_) (fun i y hi => ?_) (fun i b t s m hi hm => ?_) i y u (by simpa using hy) (by simpa using hu) box
      · rw [Nat.add_assoc]; refine ht (nb x + i) d ?_
        rw [List.getElem?_append_right (by omega), l1, Nat.add_sub_cancel_left]; exact hi
      · rw [Nat.add_assoc]; refine hf (nb x + i) y ?_
        rw [frL, List.getElem?_append_right (by rw [length_frT]; omega), length_frT, Nat.add_sub_cancel_left]; exact hi
      · refine hF (nb x + i) b t s m ?_ ?_
        · rw [List.getElem?_append_right (by omega), l1, Nat.add_sub_cancel_left]; exact hi
        · rw [frL, List.getElem?_append_right (by rw [length_frT]; omega), length_frT, Nat.add_sub_cancel_left]; exact hm
theorem TokOne.flat {B : Nat} {w : World} {x : Tr} {v : Value} (h0 : nb x = 0) (h : ∀ n F tok fr box, Rep B w F tok fr box (tkT x n) v) : TokOne B w x v [] :=
  ⟨[], by rw [h0]; rfl, by simp, by simp, fun _ n F tok fr _ _ _ box => h n F tok fr box⟩
theorem OwnL.toks {B : Nat} {w : World} {xs : List Tr} {vs : List Value} {ds : List Nat} (h : OwnL w xs vs ds) : TokAll B w xs vs ds := by
  induction h with
  | nil => exact ⟨[], rfl, by simp, by simp, fun _ n F tok fr _ _ _ i x v hx => by simp [tkL] at hx⟩
  | v x hp _ ih => exact TokAll.cons (d1 := []) (.flat rfl fun _ _ _ _ _ => .val _) ih
  | s x _ ih => exact TokAll.cons (d1 := []) (.flat rfl fun _ _ _ _ _ => .str _) ih
  | none t sz _ ih =>
    refine TokAll.cons (d1 := []) ⟨[Option.none], rfl, fun i b hi => ?_, fun _ i j b hi hj => ?_, fun _ n F tok fr ht hf _ box => ?_⟩ ih
    · cases i <;> simp at hi
    · cases i <;> simp at hi
    · refine .list (some (n + 0)) [] Option.none 0 sz 0 0 (fun _ _ => undef) (Nat.le_refl _) (fun h => absurd rfl h) (by simp) (fun h => absurd rfl h) (by simp) (by simp) (fun k hk => ?_)
      cases hk
      exact ⟨t, sz, 0, hf 0 _ rfl, Nat.le_refl _, fun _ => ⟨rfl, ⟨[], by simp, Or.inl ⟨rfl, rfl⟩⟩, ht 0 _ rfl, fun b hb => by cases hb⟩⟩
  | l t sz es b cap c us hb hc hl hm hs hu h1 he _ ih1 ih2 =>
    refine TokAll.cons (d1 := b :: _) ?_ ih2
    obtain ⟨ids, l1, m1, n1, r1⟩ := ih1
    rw [← nbLL_flatten] at l1
    have last : ∀ {i : Nat} {d : Option Nat}, (ids ++ [some b])[i]? = some d → ids[i]? = some d ∨ (i = ids.length ∧ d = some b) := fun {i d} hi => by
      rw [List.getElem?_append] at hi
      split at hi
      · exact .inl hi
      · rw [List.getElem?_singleton] at hi
        split at hi
        · cases hi; exact .inr ⟨by omega, rfl⟩
        · cases hi
    refine ⟨ids ++ [some b], by rw [List.length_append, l1, nb]; rfl, fun i b' hi => ?_, fun hnd i j b' hi hj => ?_, fun hB n F tok fr ht hf hF box => ?_⟩
    · rcases last hi with hi | ⟨_, hi⟩
      · exact List.mem_cons_of_mem _ (m1 _ _ hi)
      · cases hi; exact List.mem_cons_self
    · obtain ⟨e1, e2⟩ := List.nodup_cons.1 hnd
      rcases last hi with hi | ⟨hi, hi'⟩ <;> rcases last hj with hj | ⟨hj, hj'⟩
      · exact n1 e2 _ _ _ hi hj
      · cases hj'; exact absurd (m1 _ _ hi) e1
      · cases hi'; exact absurd (m1 _ _ hj) e1
      · omega
    · have hlast : (frT (.l t sz es))[nbLL es]? = some (t, sz, es.length) := by
        rw [frT, List.getElem?_append_right (by rw [length_frLL]; omega), length_frLL, Nat.sub_self]; rfl
      have hFb : F b = es.length * sz := hF (nbLL es) b t sz es.length (by rw [List.getElem?_append_right (by omega), l1, Nat.sub_self]; rfl) hlast
      have hin := r1 (fun d hd => hB d (List.mem_cons_of_mem _ hd)) n F tok fr (fun i d hi => ht i d (by rw [List.getElem?_append_left (getElem?_lt hi)]; exact hi))
        (fun i y hi => hf i y (by rw [frT, frLL_flatten, List.getElem?_append_left (getElem?_lt hi)]; exact hi))
        (fun i b' t' s' m' hi hm' => hF i b' t' s' m' (by rw [List.getElem?_append_left (getElem?_lt hi)]; exact hi) (by rw [frT, frLL_flatten, List.getElem?_append_left (getElem?_lt hm')]; exact hm'))
      have hlen : (tkLL es n).length = es.length := length_tkLL es n
      have hsz : ∀ e ∈ tkLL es n, e.length = sz := tkLL_sz es n hs
      have hcs : es.length * sz ≤ c.size := by rw [hc]; exact Nat.mul_le_mul_right _ hl
      have hul : us.length = es.length * sz := by rw [← hu]; simp; omega
      have key : ∀ (i : Nat) e (j : Nat) y, (tkLL es n)[i]? = some e → e[j]? = some y → i * sz + j < c.size ∧ us[i * sz + j]? = some (c.getD (i * sz + j) undef) ∧ Rep B w F tok fr [] y (c.getD (i * sz + j) undef) := fun i e j y hi hj => by
        have hf := flatten_get sz (tkLL es n) i j e y hsz hi hj
        rw [tkLL_flatten] at hf
        have hlt : i * sz + j < us.length := by
          have := getElem?_lt hf
          rw [length_tkL] at this
          rw [← he.length]; exact this
        obtain ⟨g1, g2⟩ := getD_take hu hlt
        exact ⟨g2, g1, hin _ y _ hf g1 []⟩
      show Rep B w F tok fr box (.list (some (n + nbLL es)) (tkLL es n)) (.slice (some ⟨b, 0, Option.none⟩) es.length cap)
      rw [← hlen]
      refine .list (some (n + nbLL es)) (tkLL es n) _ cap sz b 0 (fun i j => c.getD (i * sz + j) undef) (by omega) (fun _ => rfl) hsz (fun _ => ?_) (fun i e j y hi hj => ?_) (fun i e j y hi hj => (key i e j y hi hj).2.2) (fun k hk => ?_)
      · rw [hFb, hlen, Nat.zero_add]; exact Nat.le_refl _
      · obtain ⟨k1, k2, _⟩ := key i e j y hi hj
        exact ⟨by rw [Nat.zero_add]; simp [World.cell?, hb, k1, Array.getD], h1 _ (List.mem_of_getElem? k2)⟩
      · cases hk
        rw [hlen]
        refine ⟨t, sz, es.length, hf _ _ hlast, Nat.le_refl _, fun _ => ⟨rfl, ⟨us, hul, Or.inr ⟨b, cap, c, rfl, hB b List.mem_cons_self, hb, hl, hm, hc, hu⟩⟩, ?_, fun b' hb' => by cases hb'; exact hFb⟩⟩
        exact ht (nbLL es) _ (by rw [List.getElem?_append_right (by omega), l1, Nat.sub_self]; rfl)
  | a fs us h1 he _ ih1 ih2 =>
    refine TokAll.cons ?_ ih2
    obtain ⟨ids, l1, m1, n1, r1⟩ := ih1
    refine ⟨ids, by rw [l1, nb], m1, n1, fun hB n F tok fr ht hf hF box => ?_⟩
    have hin := r1 hB n F tok fr ht (by rw [frT] at hf; exact hf) (by rw [frT] at hF; exact hF)
    have hl := he.length
    have hg : ∀ i, i < us.size → us.toList[i]? = some (us.getD i undef) := fun i hi => by simp [Array.getD, hi]
    rw [tkT]
    refine .agg _ us (by rw [length_tkL]; simpa using hl) (fun i hi => h1 _ (List.mem_of_getElem? (hg i hi))) (fun i c hc => ?_)
    have := getElem?_lt hc
    rw [length_tkL] at this
    exact hin i c _ hc (hg i (by simp at hl; omega)) box
  | p fs us he _ ih1 ih2 =>
    refine TokAll.cons ?_ ih2
    obtain ⟨ids, l1, m1, n1, r1⟩ := ih1
    refine ⟨ids, by rw [l1, nb], m1, n1, fun hB n F tok fr ht hf hF box => ?_⟩
    have hin := r1 hB n F tok fr ht (by rw [frT] at hf; exact hf) (by rw [frT] at hF; exact hF)
    have hl := he.length
    have hg : ∀ i, i < us.size → us.toList[i]? = some (us.getD i undef) := fun i hi => by simp [Array.getD, hi]
    rw [tkT]
    refine .tup _ us (by rw [length_tkL]; simpa using hl) (fun i c hc => ?_)
    have := getElem?_lt hc
    rw [length_tkL] at this
    exact hin i c _ hc (hg i (by simp at hl; omega)) box
variable {mo : Bool}
theorem ORet.ret {P : Program} {f : Nat} {args : List AV} {x : Tr} (h : ORet mo P f args x) : ARet mo P f args (tkT x 0) (frT x) := by
  refine ⟨h.1, fun w F vs hout hargs => (h.2 w F vs hout hargs).mono ?_⟩
  rintro e w' ⟨v, ds, rfl, hb, hown, hnd, hds⟩
  obtain ⟨ids, l1, m1, n1, r1⟩ := hown.toks (B := w.heap.size)
  have hfl : frL [x] = frT x := by rw [frL, frL, List.append_nil]
  rw [show nbL [x] = nb x by rw [nbL, nbL, Nat.add_zero]] at l1
  -- what is known of a block's length
  let G : Nat → Option (Option Nat × (Nat × Nat × Nat)) := fun b => (ids.zip (frT x)).find? fun p => p.1 == some b
  have hG : ∀ b p, G b = some p → b ∈ ds := fun b p hp => by
    have h1 := List.find?_some hp
    have h2 := List.mem_of_find?_eq_some hp
    obtain ⟨i, hi⟩ := List.getElem?_of_mem (List.of_mem_zip h2).1
    rw [beq_iff_eq] at h1
    exact m1 i b (by rw [hi, h1])
  refine ⟨v, fun b => match G b with | some p => p.2.2.2 * p.2.2.1 | none => F b, ids, [], rfl, hb, fun b hlt => ?_, fun b hge => ?_, by rw [l1, length_frT], fun k b hk => hds b (m1 k b hk), fun k l b hk hl => n1 hnd k l b hk hl, ?_⟩
  · cases hg : G b with
    | none => simp only [hg]
    | some p => have := (hds b (hG b p hg)).1; omega
  · cases hg : G b with
    | none => simp only [hg]; exact hout b (Nat.le_trans hb.size hge)
    | some p => have := (hds b (hG b p hg)).2; omega
  · refine r1 (fun d hd => (hds d hd).1) 0 _ ids (frT x) (fun i d hi => by rw [Nat.zero_add]; exact hi) (fun i y hi => by rw [Nat.zero_add, ← hfl]; exact hi) (fun i b t s m hi hm => ?_) 0 _ v (by rw [tkL]; rfl) rfl []
    rw [hfl] at hm
    have hz : (ids.zip (frT x))[i]? = some (some b, (t, s, m)) := by rw [List.getElem?_zip_eq_some]; exact ⟨hi, hm⟩
    cases hg : G b with
    | none =>
      have := List.find?_eq_none.1 hg _ (List.mem_of_getElem? hz)
      simp at this
    | some p =>
      have h1 := List.find?_some hg
      obtain ⟨j, hj⟩ := List.getElem?_of_mem (List.mem_of_find?_eq_some hg)
      rw [beq_iff_eq] at h1
      obtain ⟨j1, j2⟩ := List.getElem?_zip_eq_some.1 hj
      rw [h1] at j1
      have := n1 hnd i j b hi j1
      subst this
      rw [hm] at j2
      simp only [hg]
      rw [← Option.some.inj j2]
theorem Own.ret {P : Program} {f : Nat} {args : List AV} {x : Tr} (h : Own mo P f args x) : Ret mo P f args (tkT x 0) (frT x) := by
  rw [Own_eq] at h; rw [Ret_eq]; exact h.ret
def Canon {α : Type} (T : Ty α) : Prop := ∀ a, (∀ n, T.tk a n = tkL (T.q a) n) ∧ T.fr a = frL (T.q a)
mutual
theorem tkT_old : ∀ (x : Tr) (n : Nat), nb x = 0 → tkT x n = old x
  | .v _, _, _ => rfl
  | .s _, _, _ => rfl
  | .l _ _ xs, _, h => by rw [nb] at h; omega
  | .a fs, n, h => by rw [nb] at h; rw [tkT, old, tkL_old fs n h]
  | .p fs, n, h => by rw [nb] at h; rw [tkT, old, tkL_old fs n h]
theorem tkL_old : ∀ (x : List Tr) (n : Nat), nbL x = 0 → tkL x n = oldL x
  | [], _, _ => rfl
  | x :: xs, n, h => by rw [nbL] at h; rw [tkL, oldL, tkT_old x n (by omega), tkL_old xs _ (by omega)]
end
theorem tkLL_old : ∀ (x : List (List Tr)) (n : Nat), nbLL x = 0 → tkLL x n = oldLL x
  | [], _, _ => rfl
  | x :: xs, n, h => by rw [nbLL] at h; rw [tkLL, oldLL, tkL_old x n (by omega), tkLL_old xs _ (by omega)]
theorem Canon.fr {α : Type} {T : Ty α} (h : Canon T) (a : α) : (T.fr a).length = nbL (T.q a) := by rw [(h a).2, length_frL]
theorem Canon.str : Canon Ty.str := fun _ => ⟨fun _ => rfl, rfl⟩
theorem Canon.pair {α β : Type} {T : Ty α} {U : Ty β} (h : Canon T) (k : Canon U) : Canon (Ty.pair T U) := fun a => by
  refine ⟨fun n => ?_, ?_⟩
  · show T.tk a.1 n ++ U.tk a.2 (n + (T.fr a.1).length) = tkL (T.q a.1 ++ U.q a.2) n
    rw [tkL_append, (h a.1).1, (k a.2).1, h.fr]
  · show T.fr a.1 ++ U.fr a.2 = frL (T.q a.1 ++ U.q a.2)
    rw [frL_append, (h a.1).2, (k a.2).2]
theorem Canon.tks {α : Type} {T : Ty α} (h : Canon T) : ∀ (l : List α) (n : Nat), Abs.tks T l n = tkLL (l.map T.q) n
  | [], _ => rfl
  | a :: l, n => by rw [Abs.tks, List.map_cons, tkLL, (h a).1, h.fr, h.tks l]
theorem Canon.frs {α : Type} {T : Ty α} (h : Canon T) : ∀ (l : List α), Abs.frs T l = frLL (l.map T.q)
  | [] => rfl
  | a :: l => by
    rw [List.map_cons, frLL, ← h.frs l, ← (h a).2]; rfl
theorem Canon.list {α : Type} {T : Ty α} (t : Nat) (h : Canon T) : Canon (Ty.list t T) := fun l => by
  have hf := h.frs l
  refine ⟨fun n => ?_, ?_⟩
  · show [AV.list (some (n + (Abs.frs T l).length)) (Abs.tks T l n)] = tkL [.l t T.sz (l.map T.q)] n
    rw [tkL, tkL, tkT, h.tks, hf, length_frLL]
  · show Abs.frs T l ++ [(t, T.sz, l.length)] = frL [.l t T.sz (l.map T.q)]
    rw [frL, frL, frT, hf, List.append_nil, List.length_map]
theorem Canon.plain {α : Type} {T : Ty α} (t : Nat) (h : ∀ a, T.fr a = []) (e : ∀ a, T.tk a 0 = oldL (T.q a)) (hc : Canon T) : Canon (Ty.plain t T h e) := fun l => by
  have h0 : nbLL (l.map T.q) = 0 := by
    induction l with
    | nil => rfl
    | cons a l ih => rw [List.map_cons, nbLL, ih, ← hc.fr a, h]; rfl
  have hf : frLL (l.map T.q) = [] := List.eq_nil_of_length_eq_zero (by rw [length_frLL, h0])
  refine ⟨fun n => ?_, ?_⟩
  · show [AV.list (some n) (oldLL (l.map T.q))] = tkL [.l t T.sz (l.map T.q)] n
    rw [tkL, tkL, tkT, h0, tkLL_old _ _ h0]; rfl
  · show [(t, T.sz, l.length)] = frL [.l t T.sz (l.map T.q)]
    rw [frL, frL, frT, hf, List.length_map]; rfl
theorem Canon.ret {α : Type} {T : Ty α} (hc : Canon T) {P : Program} {f : Nat} {args : List AV} {a : α} {x : Tr} {r : AV} (hx : T.q a = [x]) (hr : T.tk a 0 = [r]) (h : Own mo P f args x) : Ret mo P f args r (T.fr a) := by
  have h1 := h.ret
  obtain ⟨c1, c2⟩ := hc a
  have e1 := c1 0
  rw [hr, hx, tkL, tkL] at e1
  rw [hx, frL, frL, List.append_nil] at c2
  rw [(List.cons.inj e1).1, c2]; exact h1
theorem Canon.retA {α : Type} {T : Ty α} (hc : Canon T) {P : Program} {f : Nat} {args : List AV} {a : α} (h : Own mo P f args (.a (T.q a))) : Ret mo P f args (.agg (T.tk a 0)) (T.fr a) := by
  have h1 := h.ret
  obtain ⟨c1, c2⟩ := hc a
  rw [c1, c2]; exact h1
end Abs
end Go.Proofs.YtoindmahilbalaaGreat
namespace Go.Proofs.YtoindmahilbalaaGreat
namespace Abs
variable {α : Type}
theorem OwnA.mono {F F' : Fr} {xs : List Tr} {cs : List AV} {ts : List Nat} (h : OwnA F xs cs ts) : (∀ k ∈ ts, F'[k]? = F[k]?) → OwnA F' xs cs ts := by
  induction h with
  | nil => exact fun _ => .nil
  | v x hp _ ih => exact fun hF => .v x hp (ih hF)
  | s x _ ih => exact fun hF => .s x (ih hF)
  | nils t sz _ ih => exact fun hF => .nils t sz (ih hF)
  | l t sz es k ys hk hl hs hy _ _ ih1 ih2 =>
    exact fun hF => .l t sz es k ys (by rw [hF k (by simp)]; exact hk) hl hs hy (ih1 fun j hj => hF j (by simp [hj])) (ih2 fun j hj => hF j (by simp [hj]))
  | a fs us _ _ ih1 ih2 => exact fun hF => .a fs us (ih1 fun j hj => hF j (by simp [hj])) (ih2 fun j hj => hF j (by simp [hj]))
  | av fs us h1 _ _ ih1 ih2 => exact fun hF => .av fs us h1 (ih1 fun j hj => hF j (by simp [hj])) (ih2 fun j hj => hF j (by simp [hj]))
  | p fs us _ _ ih1 ih2 => exact fun hF => .p fs us (ih1 fun j hj => hF j (by simp [hj])) (ih2 fun j hj => hF j (by simp [hj]))
theorem OwnA.lt {F : Fr} {xs : List Tr} {cs : List AV} {ts : List Nat} (h : OwnA F xs cs ts) : ∀ k ∈ ts, k < F.length := by
  induction h with
  | nil => simp
  | v _ _ _ ih => exact ih
  | s _ _ ih => exact ih
  | nils _ _ _ ih => exact ih
  | l t sz es k ys hk _ _ _ _ _ ih1 ih2 =>
    intro j hj
    simp only [List.cons_append, List.mem_cons, List.mem_append] at hj
    rcases hj with rfl | hj | hj
    · exact getElem?_lt hk
    · exact ih1 j hj
    · exact ih2 j hj
  | a _ _ _ _ ih1 ih2 => exact fun j hj => (List.mem_append.1 hj).elim (ih1 j) (ih2 j)
  | av _ _ _ _ _ ih1 ih2 => exact fun j hj => (List.mem_append.1 hj).elim (ih1 j) (ih2 j)
  | p _ _ _ _ ih1 ih2 => exact fun j hj => (List.mem_append.1 hj).elim (ih1 j) (ih2 j)
theorem OwnA.len {F : Fr} {xs : List Tr} {cs : List AV} {ts : List Nat} (h : OwnA F xs cs ts) : xs.length = cs.length := by
  induction h <;> simp_all
structure AccO (T : Ty α) (t k : Nat) (F : Fr) (al : List α) (ys : List (List AV)) (ts : List Nat) : Prop where
  hk : F[k]? = some (t, T.sz, al.length)
  hl : ys.length = al.length
  hs : ∀ y ∈ ys, y.length = T.sz
  own : OwnA F (al.map T.q).flatten ys.flatten ts
  nd : ts.Nodup
  kn : k ∉ ts
theorem AccO.nil {T : Ty α} {t k : Nat} {F : Fr} (hk : F[k]? = some (t, T.sz, 0)) : AccO T t k F [] [] [] := ⟨hk, rfl, by simp, .nil, List.nodup_nil, by simp⟩
theorem AccO.klt {T : Ty α} {t k : Nat} {F : Fr} {al : List α} {ys : List (List AV)} {ts : List Nat} (h : AccO T t k F al ys ts) : k < F.length := getElem?_lt h.hk
theorem AccO.grow {T : Ty α} {t k : Nat} {F : Fr} {al : List α} {ys : List (List AV)} {ts : List Nat} (h : AccO T t k F al ys ts) (G : Fr) : AccO T t k (F ++ G) al ys ts :=
  ⟨by rw [List.getElem?_append_left h.klt]; exact h.hk, h.hl, h.hs, h.own.mono fun j hj => List.getElem?_append_left (h.own.lt j hj), h.nd, h.kn⟩
theorem AccO.app {T : Ty α} {t k : Nat} {F : Fr} {al : List α} {ys : List (List AV)} {ts : List Nat} (h : AccO T t k F al ys ts) {m : Nat} (bs : List α) (zs : List (List AV)) (us : List Nat) (hm : m = al.length + bs.length) (hl : zs.length = bs.length) (hs : ∀ z ∈ zs, z.length = T.sz)
    (ho : OwnA F (bs.map T.q).flatten zs.flatten us) (hn : us.Nodup) (hd : ∀ j ∈ us, j ≠ k ∧ j ∉ ts) : AccO T t k (F.set k (t, T.sz, m)) (al ++ bs) (ys ++ zs) (ts ++ us) where
  hk := by rw [List.getElem?_set, if_pos rfl, if_pos h.klt, hm, List.length_append]
  hl := by rw [List.length_append, List.length_append, h.hl, hl]
  hs y hy := (List.mem_append.1 hy).elim (h.hs y) (hs y)
  own := by
    rw [List.map_append, List.flatten_append, List.flatten_append]
    refine OwnA.append (h.own.mono fun j hj => ?_) (ho.mono fun j hj => ?_)
    · rw [List.getElem?_set, if_neg fun e => h.kn (by rw [e]; exact hj)]
    · rw [List.getElem?_set, if_neg fun e => (hd j hj).1 e.symm]
  nd := List.nodup_append.2 ⟨h.nd, hn, fun a ha b hb e => (hd b hb).2 (by rw [← e]; exact ha)⟩
  kn hm := (List.mem_append.1 hm).elim h.kn fun hm => (hd k hm).1 rfl
theorem AccO.snoc {T : Ty α} {t k : Nat} {F : Fr} {al : List α} {ys : List (List AV)} {ts : List Nat} (h : AccO T t k F al ys ts) {m : Nat} (a : α) (c : List AV) (us : List Nat) (hm : m = al.length + 1)
    (ho : OwnA F (T.q a) c us) (hn : us.Nodup) (hd : ∀ j ∈ us, j ≠ k ∧ j ∉ ts) : AccO T t k (F.set k (t, T.sz, m)) (al ++ [a]) (ys ++ [c]) (ts ++ us) := by
  have hc : c.length = T.sz := by rw [← ho.len, T.hq]
  exact h.app [a] [c] us hm rfl (fun z hz => by rw [List.mem_singleton.1 hz]; exact hc) (by simpa using ho) hn hd
theorem AccO.final {T : Ty α} {t k : Nat} {F : Fr} {al : List α} {ys : List (List AV)} {ts : List Nat} (h : AccO T t k F al ys ts) : ∃ us, OwnA F [.l t T.sz (al.map T.q)] [.list (some k) ys] us ∧ us.Nodup := by
  refine ⟨k :: ts ++ [], .l t T.sz _ k ys (by rw [h.hk, List.length_map]) (by rw [h.hl, List.length_map]) (fun e he => ?_) h.hs h.own .nil, ?_⟩
  · obtain ⟨a, _, rfl⟩ := List.mem_map.1 he
    exact T.hq a
  · rw [List.append_nil]; exact List.nodup_cons.2 ⟨h.kn, h.nd⟩
theorem Ty.tkOwn (T : Ty α) (a : α) {n : Nat} {F : Fr} (h : ∀ (i : Nat) x, (T.fr a)[i]? = some x → F[n + i]? = some x) : ∃ us, OwnA F (T.q a) (T.tk a n) us ∧ us.Nodup ∧ ∀ j ∈ us, n ≤ j ∧ j < n + (T.fr a).length := by
  obtain ⟨us, h1, p1⟩ := T.hown a n F h
  exact ⟨us, h1, p1.symm.nodup (List.nodup_range' _), fun j hj => by have := (p1.mem_iff).1 hj; rw [List.mem_range'_1] at this; exact this⟩
theorem tksOwn (T : Ty α) (l : List α) {n : Nat} {F : Fr} (h : ∀ (i : Nat) x, (frs T l)[i]? = some x → F[n + i]? = some x) : ∃ us, OwnA F (l.map T.q).flatten (tks T l n).flatten us ∧ us.Nodup ∧ ∀ j ∈ us, n ≤ j ∧ j < n + (frs T l).length := by
  obtain ⟨us, h1, p1⟩ := tks_own T F l n h
  exact ⟨us, h1, p1.symm.nodup (List.nodup_range' _), fun j hj => by have := (p1.mem_iff).1 hj; rw [List.mem_range'_1] at this; exact this⟩
theorem AccO.ofTks (T : Ty α) (t : Nat) (l : List α) (F : Fr) : ∃ us, AccO T t (F.length + (frs T l).length) (F ++ (frs T l ++ [(t, T.sz, l.length)])) l (tks T l F.length) us ∧ ∀ j ∈ us, F.length ≤ j ∧ j < F.length + (frs T l).length := by
  obtain ⟨us, h1, h2, h3⟩ := tksOwn T l (n := F.length) (F := F ++ (frs T l ++ [(t, T.sz, l.length)])) (fun i x hi => by
    rw [List.getElem?_append_right (by omega), Nat.add_sub_cancel_left, List.getElem?_append_left (getElem?_lt hi)]; exact hi)
  refine ⟨us, ⟨?_, length_tks _ _ _, tks_sz T l _, h1, h2, fun hm => ?_⟩, h3⟩
  · rw [List.getElem?_append_right (by omega), Nat.add_sub_cancel_left, List.getElem?_append_right (Nat.le_refl _), Nat.sub_self]; rfl
  · have := (h3 _ hm).2; omega
theorem Sees0.lists {o : Option Nat} {ys zs : List (List AV)} (hl : ys.length = zs.length) (hs : ∀ (i : Nat) y z, ys[i]? = some y → zs[i]? = some z → y.length = z.length)
    (h : ∀ (i j : Nat) y z a b, ys[i]? = some y → zs[i]? = some z → y[j]? = some a → z[j]? = some b → Sees0 a b) : Sees0 (.list o ys) (.list none zs) := fun {B w F tok fr box v} hx B' box' => by
  cases hx.list_inv with
  | list _ _ a cap sz b off vs hcap ha hsz hF hc hr ho =>
    have hne : zs ≠ [] → ys ≠ [] := fun h e => h (List.eq_nil_of_length_eq_zero (by rw [← hl, e]; rfl))
    have pair : ∀ {i j : Nat} {z : List AV} {d : AV}, zs[i]? = some z → z[j]? = some d → ∃ y c, ys[i]? = some y ∧ y[j]? = some c := fun {i j z d} hi hj => by
      have h1 := getElem?_lt hi
      have h2 := getElem?_lt hj
      have e1 : ys[i]? = some (ys[i]'(by omega)) := List.getElem?_eq_getElem (by omega)
      have e2 := hs i _ _ e1 hi
      exact ⟨_, _, e1, List.getElem?_eq_getElem (by omega)⟩
    rw [hl]
    refine .list none zs a cap sz b off vs (by omega) (fun h => ha (hne h)) (fun e he => ?_) (fun h => by rw [← hl]; exact hF (hne h)) (fun i e j c hi hj => ?_) (fun i e j c hi hj => ?_) (fun l hl' => by cases hl')
    · obtain ⟨i, hi⟩ := List.getElem?_of_mem he
      have h1 := getElem?_lt hi
      have e1 : ys[i]? = some (ys[i]'(by omega)) := List.getElem?_eq_getElem (by omega)
      rw [← hs i _ _ e1 hi]; exact hsz _ (List.mem_of_getElem? e1)
    · obtain ⟨y', c', g1, g2⟩ := pair hi hj
      exact hc i y' j c' g1 g2
    · obtain ⟨y', c', g1, g2⟩ := pair hi hj
      exact h i j y' e c' c g1 hi g2 hj (.rep _ _ (hr i y' j c' g1 g2)) B' []
theorem Sees0.aggs {xs ys : List AV} (h : SeesL Sees0 xs ys) : Sees0 (.agg xs) (.agg ys) := fun {B w F tok fr box v} hx B' box' => by
  cases hx.agg_inv with
  | agg _ vs hl h1 hr =>
    refine .agg ys vs (by rw [← h.length]; exact hl) h1 (fun i c hc => ?_)
    obtain ⟨x, hx', hS⟩ := h.get' hc
    exact hS (.rep _ _ (hr i x hx')) B' box'
theorem Sees0.tups {xs ys : List AV} (h : SeesL Sees0 xs ys) : Sees0 (.tup xs) (.tup ys) := fun {B w F tok fr box v} hx B' box' => by
  cases hx.tup_inv with
  | tup _ vs hl hr =>
    refine .tup ys vs (by rw [← h.length]; exact hl) (fun i c hc => ?_)
    obtain ⟨x, hx', hS⟩ := h.get' hc
    exact hS (.rep _ _ (hr i x hx')) B' box'
theorem Sees0.vals {vs : Array Value} {ys : List AV} (h1 : vs.toList.all (·.oneCell') = true) (h : SeesL Sees0 (vs.toList.map constAV) ys) : Sees0 (.val (.agg vs)) (.agg ys) := fun {B w F tok fr box v} hx B' box' => by
  rw [hx.val_inv]
  have hg : ∀ i, i < vs.size → vs.toList[i]? = some (vs.getD i undef) := fun i hi => by simp [Array.getD, hi]
  refine .agg ys vs (by rw [← h.length]; simp) (fun i hi => List.all_eq_true.1 h1 _ (List.mem_of_getElem? (hg i hi))) (fun i c hc => ?_)
  obtain ⟨x, hx', hS⟩ := h.get' hc
  rw [List.getElem?_map] at hx'
  obtain ⟨u, hu, rfl⟩ := Option.map_eq_some_iff.1 hx'
  have hi := getElem?_lt hu
  rw [hg i (by simpa using hi)] at hu
  cases hu
  exact hS (.rep _ _ (constAV_rep (B := B') (w := w) (F := F) (tok := []) (fr := []) (box := box') _)) B' box'
theorem OwnA.sees {F : Fr} {xs : List Tr} {cs : List AV} {ts : List Nat} (h : OwnA F xs cs ts) : SeesL Sees0 cs (oldL xs) := by
  induction h with
  | nil => exact .nil
  | v x _ _ ih => exact .cons (Sees0.val _) ih
  | s x _ ih => exact .cons (Sees0.str _) ih
  | nils t sz _ ih => exact .cons Sees0.nil ih
  | l t sz es k ys hk hl hs hy he _ ih1 ih2 =>
    refine .cons (Sees0.lists (by rw [hl, oldLL_eq, List.length_map]) (fun i y z hi hz => ?_) (fun i j y z a b hi hz hj hb => ?_)) ih2
    · rw [oldLL_eq, List.getElem?_map] at hz
      obtain ⟨e, he', rfl⟩ := Option.map_eq_some_iff.1 hz
      rw [hy y (List.mem_of_getElem? hi), List.length_map, hs e (List.mem_of_getElem? he')]
    · have hsz : ∀ e ∈ oldLL es, e.length = sz := fun e he' => by
        rw [oldLL_eq] at he'
        obtain ⟨e', h', rfl⟩ := List.mem_map.1 he'
        rw [List.length_map]; exact hs e' h'
      have f1 := flatten_get sz ys i j y a hy hi hj
      have f2 := flatten_get sz (oldLL es) i j z b hsz hz hb
      rw [flatten_oldLL] at f2
      obtain ⟨x, hx', hS⟩ := ih1.get' f2
      rw [f1] at hx'
      cases hx'
      exact @hS
  | a fs us _ _ ih1 ih2 => exact .cons (Sees0.aggs ih1) ih2
  | av fs us h1 _ _ ih1 ih2 => exact .cons (Sees0.vals h1 ih1) ih2
  | p fs us _ _ ih1 ih2 => exact .cons (Sees0.tups ih1) ih2
theorem AccO.sees {T : Ty α} {t k : Nat} {F : Fr} {al : List α} {ys : List (List AV)} {ts : List Nat} (h : AccO T t k F al ys ts) : Sees0 (.list (some k) ys) (.list none (rows T al)) := by
  obtain ⟨us, h1, _⟩ := h.final
  cases h1.sees with
  | cons h1 _ => exact h1
theorem plain_retP {mo : Bool} {P : Program} {f : Nat} {args : List AV} {T : Ty α} {t : Nat} {l : List α} {v : Value} (hf : ∀ a, T.fr a = []) (e : ∀ a, T.tk a 0 = oldL (T.q a)) (hc : Canon T) (h : Own mo P f args (.p [.l t T.sz (l.map T.q), .v v])) :
    Ret mo P f args (.tup [.list (some 0) (rows T l), .val v]) [(t, T.sz, l.length)] := by
  have h1 := h.ret
  obtain ⟨c1, c2⟩ := Canon.plain t hf e hc l
  have e1 : tkT (.l t T.sz (l.map T.q)) 0 = .list (some 0) (rows T l) := by
    have : [AV.list (some 0) (rows T l)] = tkL [.l t T.sz (l.map T.q)] 0 := c1 0
    rw [tkL, tkL] at this
    exact (List.cons.inj this).1.symm
  have e2 : frT (.l t T.sz (l.map T.q)) = [(t, T.sz, l.length)] := by
    have : [(t, T.sz, l.length)] = frL [.l t T.sz (l.map T.q)] := c2
    rw [frL, frL, List.append_nil] at this
    exact this.symm
  rw [tkT, tkL, tkL, tkL, e1, tkT, frT, frL, frL, frL, e2] at h1
  exact h1
theorem appK_at {ti sz bytes j : Nat} {xs ys : List (List AV)} {o : Option Nat} {b : List ABox} {f : Fr} {k : AV → List ABox → Fr → Prop} (hf : f[j]? = some (ti, sz, xs.length)) (hs : ∀ c ∈ ys, c.length = sz)
    (hb : (xs.length + ys.length) * bytes ≤ 140737488355328 ∧ xs.length + ys.length ≤ 1099511627776) (hk : k (.list (some j) (xs ++ ys)) b (f.set j (ti, sz, xs.length + ys.length))) : appK ti sz bytes (.list (some j) xs) (.list o ys) b f k := by
  show (match f[j]? with
    | some (t', sz', n) => Need (t' = ti) (Need (sz' = sz) (Need (n = xs.length) (Need (∀ c ∈ ys, c.length = sz) (Need ((xs.length + ys.length) * bytes ≤ 140737488355328 ∧ xs.length + ys.length ≤ 1099511627776)
      (k (.list (some j) (xs ++ ys)) b (f.set j (ti, sz, xs.length + ys.length)))))))
    | none => Stop)
  rw [hf]
  exact Need.mk rfl (Need.mk rfl (Need.mk rfl (Need.mk hs (Need.mk hb hk))))
theorem appK_to {ti sz bytes j : Nat} {xs ys : List (List AV)} {o : Option Nat} {b : List ABox} {f F' : Fr} {k : AV → List ABox → Fr → Prop} (hf : f[j]? = some (ti, sz, xs.length)) (hs : ∀ c ∈ ys, c.length = sz)
    (hb : (xs.length + ys.length) * bytes ≤ 140737488355328 ∧ xs.length + ys.length ≤ 1099511627776) (he : f.set j (ti, sz, xs.length + ys.length) = F') (hk : k (.list (some j) (xs ++ ys)) b F') : appK ti sz bytes (.list (some j) xs) (.list o ys) b f k :=
  appK_at hf hs hb (he ▸ hk)
theorem head_cons {α : Type} {l : List α} {a : α} (h : l[0]? = some a) : ∃ r, l = a :: r := by
  cases l with
  | nil => simp at h
  | cons b r => simp at h; exact ⟨r, by rw [h]⟩
theorem aOps_append {C : Con} {k : Env → List ABox → Fr → Prop} {d ti sz bytes j : Nat} {x y : Operand} {rest : List AO} {e : Env} {xs ys : List (List AV)} {o : Option Nat} {b : List ABox} {f : Fr} (hx : ev e x = .list (some j) xs) (hy : ev e y = .list o ys) (hf : f[j]? = some (ti, sz, xs.length)) (hs : ∀ c ∈ ys, c.length = sz)
    (hb : (xs.length + ys.length) * bytes ≤ 140737488355328 ∧ xs.length + ys.length ≤ 1099511627776) (hk : aOps C k rest (put e (some d) (.list (some j) (xs ++ ys))) b (f.set j (ti, sz, xs.length + ys.length))) : aOps C k (s d (.append ti sz bytes x y) :: rest) e b f := by
  unfold s
  simp only [aOps, aOp, evG, hx, hy, unG]
  exact appK_at hf hs hb hk
end Abs
end Go.Proofs.YtoindmahilbalaaGreat
namespace Go.Proofs.YtoindmahilbalaaGreat
namespace Abs
theorem bx_cons {x y : ABox} {l l' : List ABox} (h : x = y) (h' : l = l') : x :: l = y :: l' := by rw [h, h']
theorem bx_map {m m' : List (Str × Str)} (h : m = m') : ABox.map m = ABox.map m' := by rw [h]
theorem FinalC.all {Φ : AV → List ABox → Fr → Prop} {r : AV} {b : List ABox} {f : Fr} (h : Lends b b) (hk : Φ r b f) : FinalC Φ r b f := ⟨b, h, hk⟩
theorem FinalC.allA {Φ : AV → List ABox → Fr → Prop} {r : AV} {b : List ABox} {f : Fr} (hk : Φ r b f) (h : Lends b b := by repeat' first | exact Lends.nil | refine Lends.map _ ?_ | refine Lends.lend _ _ (by first | exact hx.1 | exact hy.1 | exact noTk_old _ | (intro c hc; rw [List.mem_singleton.1 hc]; rfl) | (intro c hc; cases hc; done)) ?_) : FinalC Φ r b f := ⟨b, h, hk⟩
theorem Lent.weak {mo : Bool} {P : Program} {f : Nat} {b0 : List ABox} {args : List AV} {Φ : AV → List ABox → Fr → Prop} (h : Lent true P f b0 args Φ) : Lent mo P f b0 args Φ := by
  rw [Lent_eq] at *
  exact ⟨h.1, fun w F vs box0 a b c d e g => (h.2 w F vs box0 a b c d e g).mono (by rintro en w' ⟨v, F', box1, tok, frs, r, b1, h1, h2, h3, h4⟩; exact ⟨v, F', box1, tok, frs, r, b1, h1, h2, h3.weak, h4⟩)⟩
theorem ACall.lentE {C : Con} {f : Nat} {vs : List AV} {b : List ABox} {fr : Fr} {k : AV → List ABox → Fr → Prop} (b0 : List ABox) (ys : List AV) (r : AV) (b1 : List ABox) (f1 : Fr) (h : C.lent f b0 ys (fun x y z => x = r ∧ y = b1 ∧ z = f1)) (hb : Lends b b0) (hv : SeesL SeesC vs ys)
    (hk : k (shiftK fr.length r) (merge b b0 b1) (fr ++ f1)) : ACall C true f vs b fr k :=
  .lent rfl b0 ys _ h hb hv (by rintro _ _ _ ⟨rfl, rfl, rfl⟩; exact hk)
theorem ACall.lentS {C : Con} {f : Nat} {vs : List AV} {b : List ABox} {fr : Fr} {k : AV → List ABox → Fr → Prop} (b0 : List ABox) (ys : List AV) (l : List Str) (b1 : List ABox) (f1 : Fr) (h : C.lent f b0 ys (fun x y z => x = .list (some 0) (strs l) ∧ y = b1 ∧ z = f1)) (hb : Lends b b0) (hv : SeesL SeesC vs ys)
    (hk : k (.list (some fr.length) (strs l)) (merge b b0 b1) (fr ++ f1)) : ACall C true f vs b fr k := by
  refine .lent rfl b0 ys _ h hb hv ?_
  rintro _ _ _ ⟨rfl, rfl, rfl⟩
  have e : shiftK fr.length (.list (some 0) (strs l)) = .list (some fr.length) (strs l) := by
    cases fr.length with
    | zero => rfl
    | succ n =>
      show AV.list (some (0 + (n + 1))) (mapTLL _ (strs l)) = _
      rw [strs, mapTLL_old, Nat.zero_add]
  rw [e]; exact hk
section
variable {mo : Bool} {P : Program}
theorem own_post {B : Nat} {w' : World} {F' : Nat → Nat} {tok : List (Option Nat)} {box : List BId} {frs : Fr} {x : Tr} {r : AV} {v : Value} {ts : List Nat} (hrep : Rep B w' F' tok frs box r v) (ho : OwnA frs [x] [r] ts) (hn : ts.Nodup)
    (htin : ∀ (k b : Nat), tok[k]? = some (some b) → B ≤ b ∧ b < w'.heap.size) (htinj : ∀ (k l b : Nat), tok[k]? = some (some b) → tok[l]? = some (some b) → k = l) : ∃ ds, OwnL w' [x] [v] ds ∧ ds.Nodup ∧ ∀ d ∈ ds, B ≤ d ∧ d < w'.heap.size := by
  have hget : ∀ d, d ∈ ts.filterMap (fun k => (tok[k]?).join) → ∃ k ∈ ts, tok[k]? = some (some d) := fun d hd => by
    obtain ⟨k, hk, he⟩ := List.mem_filterMap.1 hd
    cases h : tok[k]? with
    | none => rw [h] at he; cases he
    | some o => rw [h] at he; cases o with
      | none => cases he
      | some b => cases he; exact ⟨k, hk, h⟩
  refine ⟨ts.filterMap fun k => (tok[k]?).join, ho.own (F := F') (box := box) (Both.cons.2 ⟨hrep, rfl, by simp⟩), ?_, fun d hd => ?_⟩
  · clear hrep ho
    induction ts with
    | nil => simp
    | cons k ts ih =>
      obtain ⟨n1, n2⟩ := List.nodup_cons.1 hn
      have hget' : ∀ d, d ∈ ts.filterMap (fun k => (tok[k]?).join) → ∃ k ∈ ts, tok[k]? = some (some d) := fun d hd => by
        obtain ⟨k, hk, he⟩ := List.mem_filterMap.1 hd
        cases h : tok[k]? with
        | none => rw [h] at he; cases he
        | some o => rw [h] at he; cases o with
          | none => cases he
          | some b => cases he; exact ⟨k, hk, h⟩
      rw [List.filterMap_cons]
      split
      · exact ih n2 hget'
      · rename_i b hb'
        refine List.nodup_cons.2 ⟨fun hm => ?_, ih n2 hget'⟩
        obtain ⟨k', hk', he'⟩ := hget' b hm
        have he : tok[k]? = some (some b) := by
          cases h : tok[k]? with
          | none => rw [h] at hb'; cases hb'
          | some o => rw [h] at hb'; cases o with
            | none => cases hb'
            | some b => cases hb'; rfl
        exact n1 (htinj k k' b he he' ▸ hk')
  · obtain ⟨k, _, hk⟩ := hget d hd
    exact htin k d hk
theorem Own.of_irP {fid : Nat} {fn : Func} {code : ACode} {rs : List RRes} {K : List Nat} {args : List AV} {x : Tr} (hf : P.funcs[fid]? = some fn) (hb : fn.body.isSome = true) (hm : (fn.name == "runtime.NumGoroutine") = false)
    (hn : args.length ≤ fn.ntmps) (hc : cCode P fn.ntmps (fn.body.getD .skip) = code) (hrs : fn.results.toList.map (cRes P) = rs)
    (h : aCode (Kn mo P) K 0 code (doneG rs fun r _ f => ∃ ts, OwnA f [x] [r] ts ∧ ts.Nodup) ⟨argEnv 0 args, [], []⟩) : Own mo P fid args x := by
  rw [Kn_eq] at h; rw [Own_eq]
  obtain ⟨c, hc'⟩ := Option.isSome_iff_exists.1 hb
  rw [hc', Option.getD_some] at hc
  rw [← hc, ← hrs] at h
  refine ⟨okFn_of hf hb hm, fun w F vs hout hargs => (calls_of_code hf hc' hn K h w F vs hout hargs).mono ?_⟩
  rintro e w' ⟨v, F', tok, box, r, b, frs, ⟨ts, ho, hnd⟩, rfl, hb, hold, ho', htl, htin, htinj, hrep⟩
  obtain ⟨ds, h1, h2, h3⟩ := own_post hrep ho hnd htin htinj
  exact ⟨v, ds, rfl, hb, h1, h2, h3⟩
theorem IrAt.ownP {P : Program} {k : Nat} {c : ACode} {K : List Nat} {rs : List RRes} {n : Nat} (q : IrAt P k c K rs n) {mo : Bool} {args : List AV} {x : Tr} (hn : Nat.ble args.length n = true) (h : aCode (Kn mo P) K 0 c (doneG rs fun r _ f => ∃ ts, OwnA f [x] [r] ts ∧ ts.Nodup) ⟨argEnv 0 args, [], []⟩) : Own mo P k args x := by
  obtain ⟨fn, h1, h2, h3, h4, h5, h6, _⟩ := q
  exact Own.of_irP h1 h2 h3 (h4 ▸ Nat.le_of_ble_eq_true hn) h5 h6 h
end
end Abs
open Abs
theorem strs_flatten (l : List Str) : (strs l).flatten = l.map .str := by
  rw [strs_eq]; induction l with
  | nil => rfl
  | cons s l ih => rw [List.map_cons, List.flatten_cons, ih]; rfl
theorem noTk_texts {l : List Str} : ∀ c ∈ l.map AV.str, noTk c = true := fun c hc => by obtain ⟨s, _, rfl⟩ := List.mem_map.1 hc; rfl
theorem str_le {l : List Str} {i : Nat} (hi : i < l.length) : (l.getD i []).length ≤ listSize Ty.str l :=
  listSize_mem Ty.str (List.mem_of_getElem? (by simp [List.getD, hi] : l[i]? = some (l.getD i [])))
theorem str_le' (l : List Str) (i : Nat) : (l.getD i []).length ≤ listSize Ty.str l := by
  rcases Nat.lt_or_ge i l.length with h | h
  · exact str_le h
  · have : l.getD i [] = [] := by simp [List.getD, List.getElem?_eq_none h]
    rw [this]; exact Nat.zero_le _
end Go.Proofs.YtoindmahilbalaaGreat
