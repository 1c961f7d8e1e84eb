/-
  What stands below some laws' proofs, part 1: contracts of functions, by an evaluator.
-/
import Derived.Test.YtoindmahilbalaaGreatK5
import Derived.Laws.RangeAny
import Derived.Sort.Row
import Derived.Sort.Grow
import Derived.Shelf.Sort.Plain
import Derived.Shelf.Slices.CompactS
import Derived.Shelf.Slices.In.SortNone
import Derived.Test.YtoindmahilbalaaGreatProg
import Derived.Lib.SlicesCompact
import Derived.Sort.Statements
import Derived.Shelf.SlIter.Nil
import Derived.Shelf.SortM.Plain
import Derived.Shelf.SortM.SortNone
import Derived.Ground.GgzProg
import Derived.Ground.SlgmProg
import Derived.Maps.Own
import Derived.Shelf.Spec.SlicesGrow
import Derived.Ground.Names8Prog
import Derived.Shelf.Strings.OnBuilder
import Derived.Test.YtoindmahilbalaaGreatRows
import Derived.ProofKit
import Derived.Deep.Slices
namespace Go.Proofs.YtoindmahilbalaaGreat
open Abs
/-- the code of a function, as the evaluator reads it -/
def IrAt (P : Program) (k : Nat) (c : ACode) (K : List Nat) (rs : List RRes) (n : Nat) : Prop := ∃ fn, P.funcs[k]? = some fn ∧ fn.body.isSome = true ∧ (fn.name == "runtime.NumGoroutine") = false ∧ n = fn.ntmps ∧ cCode P fn.ntmps (fn.body.getD .skip) = c ∧ fn.results.toList.map (cRes P) = rs ∧ K = K
theorem ir_ {P : Program} {k : Nat} {fn : Func} {c : ACode} {K : List Nat} {rs : List RRes} {n : Nat} (h1 : P.funcs[k]? = some fn) (h2 : fn.body.isSome = true := by rfl) (h3 : (fn.name == "runtime.NumGoroutine") = false := by kernel_rfl) (h4 : n = fn.ntmps := by rfl) (h5 : cCode P fn.ntmps (fn.body.getD .skip) = c := by kernel_rfl) (h6 : fn.results.toList.map (cRes P) = rs := by kernel_rfl) : IrAt P k c K rs n := ⟨fn, h1, h2, h3, h4, h5, h6, rfl⟩
theorem IrAt.of {P : Program} {k : Nat} {c : ACode} {K : List Nat} {rs : List RRes} {n : Nat} (q : IrAt P k c K rs n) {mo : Bool} {args : List AV} {r : AV} {frs : Fr} (hn : Nat.ble args.length n = true) (h : aCode (Kn mo P) K 0 c (doneK rs r frs) ⟨argEnv 0 args, [], []⟩) : Abs.Ret mo P k args r frs := by
 obtain ⟨fn, h1, h2, h3, h4, h5, h6, _⟩ := q
 exact Abs.Ret.of_ir h1 h2 h3 (h4 ▸ Nat.le_of_ble_eq_true hn) h5 h6 h
theorem IrAt.ofS {P : Program} {k : Nat} {c : ACode} {K : List Nat} {rs : List RRes} {n : Nat} (q : IrAt P k c K rs n) {mo : Bool} {args : List AV} {r : AV} (hr : isScalR r = true) (hn : Nat.ble args.length n = true) (h : aCode (Kn mo P) K 0 c (doneS rs r) ⟨argEnv 0 args, [], []⟩) : Abs.Ret mo P k args r [] := by
 obtain ⟨fn, h1, h2, h3, h4, h5, h6, _⟩ := q
 exact Abs.Ret.of_irS hr h1 h2 h3 (h4 ▸ Nat.le_of_ble_eq_true hn) h5 h6 h
theorem ble_ {a b : Nat} (h : Nat.ble a b = true := by rfl) : a ≤ b := Nat.le_of_ble_eq_true h
theorem wl_ {nb : Nat} {x y : St} (h1 : agrees x.env y.env) (h2 : x.bx.take y.bx.length = y.bx) (h3 : x.fr = y.fr) (h4 : nb ≤ y.bx.length) (h5 : x.bx.length ≤ y.bx.length := by exact Nat.le_of_ble_eq_true rfl) : Weak nb x y := .mk h1 h2 h3 h4 (.inl h5)
theorem wr_ {nb : Nat} {x y : St} (h1 : agrees x.env y.env) (h2 : x.bx.take y.bx.length = y.bx) (h3 : x.fr = y.fr) (h4 : nb ≤ y.bx.length) (h5 : inBE y.bx.length y.env := by repeat' first | exact trivial | exact Nat.le_of_ble_eq_true rfl | refine And.intro ?_ ?_) (h6 : inBX y.bx.length y.bx := by repeat' first | exact trivial | exact Nat.le_of_ble_eq_true rfl | refine And.intro ?_ ?_) : Weak nb x y := .mk h1 h2 h3 h4 (.inr ⟨h5, h6⟩)
theorem nb_ {a b : Nat} {q : Prop} (k : q) (h : a ≤ b := by exact Nat.le_of_ble_eq_true rfl) : Need (a ≤ b) q := .mk h k
def v_ (d n : Nat) : AO := s d (.mv (t n))
def r_ (l : List AO) : ACode := .region false l
def l_ (n : Nat) : AOp := .load false 1 (t n)
def a_ (k n : Nat) : AOp := .load true k (t n)
def f_ (k n : Nat) : AOp := .fadr k (t n)
def i_ (n : Int) : Operand := .const (.int .i64 n)
def q_ (a b : ACode) : ACode := .seq a b
def mf_ : AOp := .mv (.const (.bool false))
def mt_ : AOp := .mv (.const (.bool true))
end Go.Proofs.YtoindmahilbalaaGreat
namespace Go.Proofs.YtoindmahilbalaaGreat
open Abs
def eqAction.code : ACode := (q_ (r_ [s 2 (.box (t 0)), s 3 (.box (t 1)), s 4 mf_]) (q_ (q_ (r_ [s 5 (f_ 0 2), s 6 (l_ 5), s 7 (f_ 0 3), s 8 (l_ 7), s 9 (.bin .neq (t 6) (t 8))]) (.cond (t 9) (q_ (r_ [s 4 mf_]) .ret) .skip)) (q_ (q_ (r_ [s 10 (f_ 1 2), s 11 (a_ 2 10), s 12 (f_ 1 3), s 13 (a_ 2 12), s 14 (.call 154 [t 11, t 13]), s 15 (.not (t 14))]) (.cond (t 15) (q_ (r_ [s 4 mf_]) .ret) .skip)) (q_ (r_ [s 4 mt_]) .ret))))
theorem eqAction.ir : IrAt Tryz.prog 106 eqAction.code [0, 1, 2, 3, 4] [.tmp 4] Tryz.f106.ntmps := ir_ Tryz.func106
abbrev eqAction.Ret (args : List AV) (r : AV) (frs : Fr) : Prop := Abs.Ret true Tryz.prog 106 args r frs
def eqActionS.code : ACode := (q_ (r_ [s 4 mf_]) (q_ (q_ (r_ [v_ 6 0, s 7 (.len false (t 6)), v_ 8 1, s 9 (.len false (t 8)), s 10 (.bin .neq (t 7) (t 9))]) (.cond (t 10) (q_ (r_ [s 4 mf_]) .ret) .skip)) (q_ (q_ (r_ [s 5 (.mv (i_ 0))]) (.block 0 (.loop (q_ (q_ (r_ [v_ 11 5, v_ 12 0, s 13 (.len false (t 12)), s 14 (.bin .lss (t 11) (t 13))]) (.cond (t 14) .skip (.exit 0))) (q_ (.block 1 (q_ (.region true [v_ 17 0, v_ 18 5, s 19 (.iadr 3 (t 17) (t 18)), s 20 (a_ 3 19), v_ 21 1, v_ 22 5, s 23 (.iadr 3 (t 21) (t 22)), s 24 (a_ 3 23), s 25 (.call 106 [t 20, t 24]), s 26 (.not (t 25))]) (.cond (t 26) (q_ (r_ [s 4 mf_]) .ret) .skip))) (r_ [v_ 15 5, s 16 (.bin .add (t 15) (i_ 1)), v_ 5 16])))))) (q_ (r_ [s 4 mt_]) .ret))))
theorem eqActionS.ir : IrAt Tryz.prog 60 eqActionS.code [0, 1, 4, 5] [.tmp 4] Tryz.f60.ntmps := ir_ Tryz.func60
abbrev eqActionS.Ret (args : List AV) (r : AV) (frs : Fr) : Prop := Abs.Ret true Tryz.prog 60 args r frs
def eqCond.code : ACode := (q_ (r_ [s 2 (.box (t 0)), s 3 (.box (t 1)), s 4 mf_]) (q_ (q_ (r_ [s 5 (f_ 0 2), s 6 (l_ 5), s 7 (f_ 0 3), s 8 (l_ 7), s 9 (.bin .neq (t 6) (t 8))]) (.cond (t 9) (q_ (r_ [s 4 mf_]) .ret) .skip)) (q_ (q_ (r_ [s 10 (f_ 1 2), s 11 (a_ 2 10), s 12 (f_ 1 3), s 13 (a_ 2 12), s 14 (.call 154 [t 11, t 13]), s 15 (.not (t 14))]) (.cond (t 15) (q_ (r_ [s 4 mf_]) .ret) .skip)) (q_ (q_ (r_ [s 16 (f_ 3 2), s 17 (l_ 16), s 18 (f_ 3 3), s 19 (l_ 18), s 20 (.bin .neq (t 17) (t 19))]) (.cond (t 20) (q_ (r_ [s 4 mf_]) .ret) .skip)) (q_ (q_ (r_ [s 21 (f_ 4 2), s 22 (l_ 21), s 23 (f_ 4 3), s 24 (l_ 23), s 25 (.bin .neq (t 22) (t 24))]) (.cond (t 25) (q_ (r_ [s 4 mf_]) .ret) .skip)) (q_ (r_ [s 4 mt_]) .ret))))))
theorem eqCond.ir : IrAt Tryz.prog 105 eqCond.code [0, 1, 2, 3, 4] [.tmp 4] Tryz.f105.ntmps := ir_ Tryz.func105
abbrev eqCond.Ret (args : List AV) (r : AV) (frs : Fr) : Prop := Abs.Ret true Tryz.prog 105 args r frs
def eqCondS.code : ACode := (q_ (r_ [s 4 mf_]) (q_ (q_ (r_ [v_ 6 0, s 7 (.len false (t 6)), v_ 8 1, s 9 (.len false (t 8)), s 10 (.bin .neq (t 7) (t 9))]) (.cond (t 10) (q_ (r_ [s 4 mf_]) .ret) .skip)) (q_ (q_ (r_ [s 5 (.mv (i_ 0))]) (.block 0 (.loop (q_ (q_ (r_ [v_ 11 5, v_ 12 0, s 13 (.len false (t 12)), s 14 (.bin .lss (t 11) (t 13))]) (.cond (t 14) .skip (.exit 0))) (q_ (.block 1 (q_ (.region true [v_ 17 0, v_ 18 5, s 19 (.iadr 5 (t 17) (t 18)), s 20 (a_ 5 19), v_ 21 1, v_ 22 5, s 23 (.iadr 5 (t 21) (t 22)), s 24 (a_ 5 23), s 25 (.call 105 [t 20, t 24]), s 26 (.not (t 25))]) (.cond (t 26) (q_ (r_ [s 4 mf_]) .ret) .skip))) (r_ [v_ 15 5, s 16 (.bin .add (t 15) (i_ 1)), v_ 5 16])))))) (q_ (r_ [s 4 mt_]) .ret))))
theorem eqCondS.ir : IrAt Tryz.prog 59 eqCondS.code [0, 1, 4, 5] [.tmp 4] Tryz.f59.ntmps := ir_ Tryz.func59
abbrev eqCondS.Ret (args : List AV) (r : AV) (frs : Fr) : Prop := Abs.Ret true Tryz.prog 59 args r frs
def eqFact.code : ACode := (q_ (r_ [s 2 (.box (t 0)), s 3 (.box (t 1)), s 4 mf_]) (q_ (q_ (r_ [s 5 (f_ 0 2), s 6 (l_ 5), s 7 (f_ 0 3), s 8 (l_ 7), s 9 (.bin .neq (t 6) (t 8))]) (.cond (t 9) (q_ (r_ [s 4 mf_]) .ret) .skip)) (q_ (q_ (r_ [s 10 (f_ 1 2), s 11 (l_ 10), s 12 (f_ 1 3), s 13 (l_ 12), s 14 (.call 107 [t 11, t 13]), s 15 (.not (t 14))]) (.cond (t 15) (q_ (r_ [s 4 mf_]) .ret) .skip)) (q_ (r_ [s 4 mt_]) .ret))))
theorem eqFact.ir : IrAt Tryz.prog 61 eqFact.code [0, 1, 2, 3, 4] [.tmp 4] Tryz.f61.ntmps := ir_ Tryz.func61
abbrev eqFact.Ret (args : List AV) (r : AV) (frs : Fr) : Prop := Abs.Ret true Tryz.prog 61 args r frs
def eqFactS.code : ACode := (q_ (r_ [s 4 mf_]) (q_ (q_ (r_ [v_ 6 0, s 7 (.len false (t 6)), v_ 8 1, s 9 (.len false (t 8)), s 10 (.bin .neq (t 7) (t 9))]) (.cond (t 10) (q_ (r_ [s 4 mf_]) .ret) .skip)) (q_ (q_ (r_ [s 5 (.mv (i_ 0))]) (.block 0 (.loop (q_ (q_ (r_ [v_ 11 5, v_ 12 0, s 13 (.len false (t 12)), s 14 (.bin .lss (t 11) (t 13))]) (.cond (t 14) .skip (.exit 0))) (q_ (.block 1 (q_ (.region true [v_ 17 0, v_ 18 5, s 19 (.iadr 2 (t 17) (t 18)), s 20 (a_ 2 19), v_ 21 1, v_ 22 5, s 23 (.iadr 2 (t 21) (t 22)), s 24 (a_ 2 23), s 25 (.call 61 [t 20, t 24]), s 26 (.not (t 25))]) (.cond (t 26) (q_ (r_ [s 4 mf_]) .ret) .skip))) (r_ [v_ 15 5, s 16 (.bin .add (t 15) (i_ 1)), v_ 5 16])))))) (q_ (r_ [s 4 mt_]) .ret))))
theorem eqFactS.ir : IrAt Tryz.prog 17 eqFactS.code [0, 1, 4, 5] [.tmp 4] Tryz.f17.ntmps := ir_ Tryz.func17
abbrev eqFactS.Ret (args : List AV) (r : AV) (frs : Fr) : Prop := Abs.Ret true Tryz.prog 17 args r frs
def eqMatch.code : ACode := (q_ (r_ [s 2 (.box (t 0)), s 3 (.box (t 1)), s 4 mf_]) (q_ (q_ (r_ [s 5 (f_ 0 2), s 6 (l_ 5), s 7 (f_ 0 3), s 8 (l_ 7), s 9 (.bin .neq (t 6) (t 8))]) (.cond (t 9) (q_ (r_ [s 4 mf_]) .ret) .skip)) (q_ (q_ (r_ [s 10 (f_ 1 2), s 11 (l_ 10), s 12 (f_ 1 3), s 13 (l_ 12), s 14 (.call 17 [t 11, t 13]), s 15 (.not (t 14))]) (.cond (t 15) (q_ (r_ [s 4 mf_]) .ret) .skip)) (q_ (q_ (r_ [s 16 (f_ 2 2), s 17 (l_ 16), s 18 (f_ 2 3), s 19 (l_ 18), s 20 (.call 77 [t 17, t 19]), s 21 (.not (t 20))]) (.cond (t 21) (q_ (r_ [s 4 mf_]) .ret) .skip)) (q_ (r_ [s 4 mt_]) .ret)))))
theorem eqMatch.ir : IrAt Tryz.prog 37 eqMatch.code [0, 1, 2, 3, 4] [.tmp 4] Tryz.f37.ntmps := ir_ Tryz.func37
abbrev eqMatch.Ret (args : List AV) (r : AV) (frs : Fr) : Prop := Abs.Ret true Tryz.prog 37 args r frs
def eqMatchS.code : ACode := (q_ (r_ [s 4 mf_]) (q_ (q_ (r_ [v_ 6 0, s 7 (.len false (t 6)), v_ 8 1, s 9 (.len false (t 8)), s 10 (.bin .neq (t 7) (t 9))]) (.cond (t 10) (q_ (r_ [s 4 mf_]) .ret) .skip)) (q_ (q_ (r_ [s 5 (.mv (i_ 0))]) (.block 0 (.loop (q_ (q_ (r_ [v_ 11 5, v_ 12 0, s 13 (.len false (t 12)), s 14 (.bin .lss (t 11) (t 13))]) (.cond (t 14) .skip (.exit 0))) (q_ (.block 1 (q_ (.region true [v_ 17 0, v_ 18 5, s 19 (.iadr 3 (t 17) (t 18)), s 20 (a_ 3 19), v_ 21 1, v_ 22 5, s 23 (.iadr 3 (t 21) (t 22)), s 24 (a_ 3 23), s 25 (.call 37 [t 20, t 24]), s 26 (.not (t 25))]) (.cond (t 26) (q_ (r_ [s 4 mf_]) .ret) .skip))) (r_ [v_ 15 5, s 16 (.bin .add (t 15) (i_ 1)), v_ 5 16])))))) (q_ (r_ [s 4 mt_]) .ret))))
theorem eqMatchS.ir : IrAt Tryz.prog 24 eqMatchS.code [0, 1, 4, 5] [.tmp 4] Tryz.f24.ntmps := ir_ Tryz.func24
abbrev eqMatchS.Ret (args : List AV) (r : AV) (frs : Fr) : Prop := Abs.Ret true Tryz.prog 24 args r frs
def eqPair.code : ACode := (q_ (r_ [s 2 (.box (t 0)), s 3 (.box (t 1)), s 4 mf_]) (q_ (q_ (r_ [s 5 (f_ 0 2), s 6 (l_ 5), s 7 (f_ 0 3), s 8 (l_ 7), s 9 (.bin .neq (t 6) (t 8))]) (.cond (t 9) (q_ (r_ [s 4 mf_]) .ret) .skip)) (q_ (q_ (r_ [s 10 (f_ 1 2), s 11 (l_ 10), s 12 (f_ 1 3), s 13 (l_ 12), s 14 (.bin .neq (t 11) (t 13))]) (.cond (t 14) (q_ (r_ [s 4 mf_]) .ret) .skip)) (q_ (r_ [s 4 mt_]) .ret))))
theorem eqPair.ir : IrAt Tryz.prog 118 eqPair.code [0, 1, 2, 3, 4] [.tmp 4] Tryz.f118.ntmps := ir_ Tryz.func118
abbrev eqPair.Ret (args : List AV) (r : AV) (frs : Fr) : Prop := Abs.Ret true Tryz.prog 118 args r frs
def eqPairS.code : ACode := (q_ (r_ [s 4 mf_]) (q_ (q_ (r_ [v_ 6 0, s 7 (.len false (t 6)), v_ 8 1, s 9 (.len false (t 8)), s 10 (.bin .neq (t 7) (t 9))]) (.cond (t 10) (q_ (r_ [s 4 mf_]) .ret) .skip)) (q_ (q_ (r_ [s 5 (.mv (i_ 0))]) (.block 0 (.loop (q_ (q_ (r_ [v_ 11 5, v_ 12 0, s 13 (.len false (t 12)), s 14 (.bin .lss (t 11) (t 13))]) (.cond (t 14) .skip (.exit 0))) (q_ (.block 1 (q_ (.region true [v_ 17 0, v_ 18 5, s 19 (.iadr 2 (t 17) (t 18)), s 20 (a_ 2 19), v_ 21 1, v_ 22 5, s 23 (.iadr 2 (t 21) (t 22)), s 24 (a_ 2 23), s 25 (.call 118 [t 20, t 24]), s 26 (.not (t 25))]) (.cond (t 26) (q_ (r_ [s 4 mf_]) .ret) .skip))) (r_ [v_ 15 5, s 16 (.bin .add (t 15) (i_ 1)), v_ 5 16])))))) (q_ (r_ [s 4 mt_]) .ret))))
theorem eqPairS.ir : IrAt Tryz.prog 77 eqPairS.code [0, 1, 4, 5] [.tmp 4] Tryz.f77.ntmps := ir_ Tryz.func77
abbrev eqPairS.Ret (args : List AV) (r : AV) (frs : Fr) : Prop := Abs.Ret true Tryz.prog 77 args r frs
def eqPattern.code : ACode := (q_ (r_ [s 2 (.box (t 0)), s 3 (.box (t 1)), s 4 mf_]) (q_ (q_ (r_ [s 5 (f_ 0 2), s 6 (l_ 5), s 7 (f_ 0 3), s 8 (l_ 7), s 9 (.bin .neq (t 6) (t 8))]) (.cond (t 9) (q_ (r_ [s 4 mf_]) .ret) .skip)) (q_ (q_ (r_ [s 10 (f_ 1 2), s 11 (l_ 10), s 12 (f_ 1 3), s 13 (l_ 12), s 14 (.call 107 [t 11, t 13]), s 15 (.not (t 14))]) (.cond (t 15) (q_ (r_ [s 4 mf_]) .ret) .skip)) (q_ (r_ [s 4 mt_]) .ret))))
theorem eqPattern.ir : IrAt Tryz.prog 154 eqPattern.code [0, 1, 2, 3, 4] [.tmp 4] Tryz.f154.ntmps := ir_ Tryz.func154
abbrev eqPattern.Ret (args : List AV) (r : AV) (frs : Fr) : Prop := Abs.Ret true Tryz.prog 154 args r frs
def eqRule.code : ACode := (q_ (r_ [s 2 (.box (t 0)), s 3 (.box (t 1)), s 4 mf_]) (q_ (q_ (r_ [s 5 (f_ 0 2), s 6 (l_ 5), s 7 (f_ 0 3), s 8 (l_ 7), s 9 (.bin .neq (t 6) (t 8))]) (.cond (t 9) (q_ (r_ [s 4 mf_]) .ret) .skip)) (q_ (q_ (r_ [s 10 (f_ 1 2), s 11 (l_ 10), s 12 (f_ 1 3), s 13 (l_ 12), s 14 (.bin .neq (t 11) (t 13))]) (.cond (t 14) (q_ (r_ [s 4 mf_]) .ret) .skip)) (q_ (q_ (r_ [s 15 (f_ 2 2), s 16 (l_ 15), s 17 (f_ 2 3), s 18 (l_ 17), s 19 (.call 59 [t 16, t 18]), s 20 (.not (t 19))]) (.cond (t 20) (q_ (r_ [s 4 mf_]) .ret) .skip)) (q_ (q_ (r_ [s 21 (f_ 3 2), s 22 (l_ 21), s 23 (f_ 3 3), s 24 (l_ 23), s 25 (.call 60 [t 22, t 24]), s 26 (.not (t 25))]) (.cond (t 26) (q_ (r_ [s 4 mf_]) .ret) .skip)) (q_ (r_ [s 4 mt_]) .ret))))))
theorem eqRule.ir : IrAt Tryz.prog 16 eqRule.code [0, 1, 2, 3, 4] [.tmp 4] Tryz.f16.ntmps := ir_ Tryz.func16
abbrev eqRule.Ret (args : List AV) (r : AV) (frs : Fr) : Prop := Abs.Ret true Tryz.prog 16 args r frs
def eqRuleS.code : ACode := (q_ (r_ [s 4 mf_]) (q_ (q_ (r_ [v_ 6 0, s 7 (.len false (t 6)), v_ 8 1, s 9 (.len false (t 8)), s 10 (.bin .neq (t 7) (t 9))]) (.cond (t 10) (q_ (r_ [s 4 mf_]) .ret) .skip)) (q_ (q_ (r_ [s 5 (.mv (i_ 0))]) (.block 0 (.loop (q_ (q_ (r_ [v_ 11 5, v_ 12 0, s 13 (.len false (t 12)), s 14 (.bin .lss (t 11) (t 13))]) (.cond (t 14) .skip (.exit 0))) (q_ (.block 1 (q_ (.region true [v_ 17 0, v_ 18 5, s 19 (.iadr 4 (t 17) (t 18)), s 20 (a_ 4 19), v_ 21 1, v_ 22 5, s 23 (.iadr 4 (t 21) (t 22)), s 24 (a_ 4 23), s 25 (.call 16 [t 20, t 24]), s 26 (.not (t 25))]) (.cond (t 26) (q_ (r_ [s 4 mf_]) .ret) .skip))) (r_ [v_ 15 5, s 16 (.bin .add (t 15) (i_ 1)), v_ 5 16])))))) (q_ (r_ [s 4 mt_]) .ret))))
theorem eqRuleS.ir : IrAt Tryz.prog 31 eqRuleS.code [0, 1, 4, 5] [.tmp 4] Tryz.f31.ntmps := ir_ Tryz.func31
abbrev eqRuleS.Ret (args : List AV) (r : AV) (frs : Fr) : Prop := Abs.Ret true Tryz.prog 31 args r frs
def eqStringS.code : ACode := (q_ (r_ [s 4 mf_]) (q_ (q_ (r_ [v_ 6 0, s 7 (.len false (t 6)), v_ 8 1, s 9 (.len false (t 8)), s 10 (.bin .neq (t 7) (t 9))]) (.cond (t 10) (q_ (r_ [s 4 mf_]) .ret) .skip)) (q_ (q_ (r_ [s 5 (.mv (i_ 0))]) (.block 0 (.loop (q_ (q_ (r_ [v_ 11 5, v_ 12 0, s 13 (.len false (t 12)), s 14 (.bin .lss (t 11) (t 13))]) (.cond (t 14) .skip (.exit 0))) (q_ (.block 1 (q_ (.region true [v_ 17 0, v_ 18 5, s 19 (.iadr 1 (t 17) (t 18)), s 20 (l_ 19), v_ 21 1, v_ 22 5, s 23 (.iadr 1 (t 21) (t 22)), s 24 (l_ 23), s 25 (.bin .neq (t 20) (t 24))]) (.cond (t 25) (q_ (r_ [s 4 mf_]) .ret) .skip))) (r_ [v_ 15 5, s 16 (.bin .add (t 15) (i_ 1)), v_ 5 16])))))) (q_ (r_ [s 4 mt_]) .ret))))
theorem eqStringS.ir : IrAt Tryz.prog 107 eqStringS.code [0, 1, 4, 5] [.tmp 4] Tryz.f107.ntmps := ir_ Tryz.func107
abbrev eqStringS.Ret (args : List AV) (r : AV) (frs : Fr) : Prop := Abs.Ret true Tryz.prog 107 args r frs
def heldFactS.code : ACode := (q_ (r_ [s 4 (.mv (i_ 0))]) (q_ (q_ (r_ [s 5 (.mv (i_ 0))]) (.block 0 (.loop (q_ (q_ (r_ [v_ 6 5, v_ 7 0, s 8 (.len false (t 7)), s 9 (.bin .lss (t 6) (t 8))]) (.cond (t 9) .skip (.exit 0))) (q_ (.block 1 (q_ (q_ (.region true [v_ 12 0, v_ 13 5, s 14 (.iadr 2 (t 12) (t 13)), s 15 (f_ 0 14), s 16 (l_ 15), v_ 17 1, s 18 (.call 64 [t 17]), s 19 (.bin .neq (t 16) (t 18))]) (.cond (t 19) (q_ (r_ [s 4 (.mv (.const (.int .i64 (-1))))]) .ret) .skip)) (q_ (r_ [v_ 20 1, s 21 (.bin .add (t 20) (i_ 1)), v_ 1 21]) (q_ (r_ [v_ 22 0, v_ 23 5, s 24 (.iadr 2 (t 22) (t 23)), s 25 (f_ 1 24), s 26 (l_ 25), v_ 27 1, s 28 (.call 108 [t 26, t 27]), v_ 1 28]) (q_ (r_ [v_ 29 1, s 30 (.bin .lss (t 29) (i_ 0))]) (.cond (t 30) (q_ (r_ [s 4 (.mv (.const (.int .i64 (-1))))]) .ret) .skip)))))) (r_ [v_ 10 5, s 11 (.bin .add (t 10) (i_ 1)), v_ 5 11])))))) (q_ (r_ [v_ 31 1, v_ 4 31]) .ret)))
theorem heldFactS.ir : IrAt Tryz.prog 67 heldFactS.code [0, 1, 4, 5] [.tmp 4] Tryz.f67.ntmps := ir_ Tryz.func67
abbrev heldFactS.Ret (args : List AV) (r : AV) (frs : Fr) : Prop := Abs.Ret true Tryz.prog 67 args r frs
def heldMatchS.code : ACode := (q_ (r_ [s 4 (.mv (i_ 0))]) (q_ (q_ (r_ [s 5 (.mv (i_ 0))]) (.block 0 (.loop (q_ (q_ (r_ [v_ 6 5, v_ 7 0, s 8 (.len false (t 7)), s 9 (.bin .lss (t 6) (t 8))]) (.cond (t 9) .skip (.exit 0))) (q_ (.block 1 (q_ (q_ (.region true [v_ 12 0, v_ 13 5, s 14 (.iadr 3 (t 12) (t 13)), s 15 (f_ 0 14), s 16 (l_ 15), v_ 17 1, s 18 (.call 64 [t 17]), s 19 (.bin .neq (t 16) (t 18))]) (.cond (t 19) (q_ (r_ [s 4 (.mv (.const (.int .i64 (-1))))]) .ret) .skip)) (q_ (r_ [v_ 20 1, s 21 (.bin .add (t 20) (i_ 1)), v_ 1 21]) (q_ (r_ [v_ 22 0, v_ 23 5, s 24 (.iadr 3 (t 22) (t 23)), s 25 (f_ 1 24), s 26 (l_ 25), v_ 27 1, s 28 (.call 67 [t 26, t 27]), v_ 1 28]) (q_ (q_ (r_ [v_ 29 1, s 30 (.bin .lss (t 29) (i_ 0))]) (.cond (t 30) (q_ (r_ [s 4 (.mv (.const (.int .i64 (-1))))]) .ret) .skip)) (q_ (r_ [v_ 31 0, v_ 32 5, s 33 (.iadr 3 (t 31) (t 32)), s 34 (f_ 2 33), s 35 (l_ 34), v_ 36 1, s 37 (.call 68 [t 35, t 36]), v_ 1 37]) (q_ (r_ [v_ 38 1, s 39 (.bin .lss (t 38) (i_ 0))]) (.cond (t 39) (q_ (r_ [s 4 (.mv (.const (.int .i64 (-1))))]) .ret) .skip)))))))) (r_ [v_ 10 5, s 11 (.bin .add (t 10) (i_ 1)), v_ 5 11])))))) (q_ (r_ [v_ 40 1, v_ 4 40]) .ret)))
theorem heldMatchS.ir : IrAt Tryz.prog 26 heldMatchS.code [0, 1, 4, 5] [.tmp 4] Tryz.f26.ntmps := ir_ Tryz.func26
abbrev heldMatchS.Ret (args : List AV) (r : AV) (frs : Fr) : Prop := Abs.Ret true Tryz.prog 26 args r frs
def heldPairS.code : ACode := (q_ (r_ [s 4 (.mv (i_ 0))]) (q_ (q_ (r_ [s 5 (.mv (i_ 0))]) (.block 0 (.loop (q_ (q_ (r_ [v_ 6 5, v_ 7 0, s 8 (.len false (t 7)), s 9 (.bin .lss (t 6) (t 8))]) (.cond (t 9) .skip (.exit 0))) (q_ (.block 1 (q_ (q_ (.region true [v_ 12 0, v_ 13 5, s 14 (.iadr 2 (t 12) (t 13)), s 15 (f_ 0 14), s 16 (l_ 15), v_ 17 1, s 18 (.call 64 [t 17]), s 19 (.bin .neq (t 16) (t 18))]) (.cond (t 19) (q_ (r_ [s 4 (.mv (.const (.int .i64 (-1))))]) .ret) .skip)) (q_ (r_ [v_ 20 1, s 21 (.bin .add (t 20) (i_ 1)), v_ 1 21]) (q_ (q_ (.region true [v_ 22 0, v_ 23 5, s 24 (.iadr 2 (t 22) (t 23)), s 25 (f_ 1 24), s 26 (l_ 25), v_ 27 1, s 28 (.call 64 [t 27]), s 29 (.bin .neq (t 26) (t 28))]) (.cond (t 29) (q_ (r_ [s 4 (.mv (.const (.int .i64 (-1))))]) .ret) .skip)) (r_ [v_ 30 1, s 31 (.bin .add (t 30) (i_ 1)), v_ 1 31]))))) (r_ [v_ 10 5, s 11 (.bin .add (t 10) (i_ 1)), v_ 5 11])))))) (q_ (r_ [v_ 32 1, v_ 4 32]) .ret)))
theorem heldPairS.ir : IrAt Tryz.prog 68 heldPairS.code [0, 1, 4, 5] [.tmp 4] Tryz.f68.ntmps := ir_ Tryz.func68
abbrev heldPairS.Ret (args : List AV) (r : AV) (frs : Fr) : Prop := Abs.Ret true Tryz.prog 68 args r frs
def heldStringS.code : ACode := (q_ (r_ [s 4 (.mv (i_ 0))]) (q_ (q_ (r_ [s 5 (.mv (i_ 0))]) (.block 0 (.loop (q_ (q_ (r_ [v_ 6 5, v_ 7 0, s 8 (.len false (t 7)), s 9 (.bin .lss (t 6) (t 8))]) (.cond (t 9) .skip (.exit 0))) (q_ (.block 1 (q_ (q_ (.region true [v_ 12 0, v_ 13 5, s 14 (.iadr 1 (t 12) (t 13)), s 15 (l_ 14), v_ 16 1, s 17 (.call 64 [t 16]), s 18 (.bin .neq (t 15) (t 17))]) (.cond (t 18) (q_ (r_ [s 4 (.mv (.const (.int .i64 (-1))))]) .ret) .skip)) (r_ [v_ 19 1, s 20 (.bin .add (t 19) (i_ 1)), v_ 1 20]))) (r_ [v_ 10 5, s 11 (.bin .add (t 10) (i_ 1)), v_ 5 11])))))) (q_ (r_ [v_ 21 1, v_ 4 21]) .ret)))
theorem heldStringS.ir : IrAt Tryz.prog 108 heldStringS.code [0, 1, 4, 5] [.tmp 4] Tryz.f108.ntmps := ir_ Tryz.func108
abbrev heldStringS.Ret (args : List AV) (r : AV) (frs : Fr) : Prop := Abs.Ret true Tryz.prog 108 args r frs
def markActionS.code : ACode := (q_ (r_ [s 4 (.mv (i_ 0))]) (q_ (q_ (r_ [s 5 (.mv (i_ 0))]) (.block 0 (.loop (q_ (q_ (r_ [v_ 6 5, v_ 7 0, s 8 (.len false (t 7)), s 9 (.bin .lss (t 6) (t 8))]) (.cond (t 9) .skip (.exit 0))) (q_ (.block 1 (q_ (r_ [v_ 12 0, v_ 13 5, v_ 14 1, s 15 (.iadr 3 (t 12) (t 13)), s 16 (f_ 0 15), ⟨none, none, (.store 1 (t 16) (t 14))⟩]) (q_ (r_ [v_ 17 1, s 18 (.bin .add (t 17) (i_ 1)), v_ 1 18]) (q_ (r_ [v_ 19 0, v_ 20 5, v_ 21 1, s 22 (.call 64 [t 21]), s 23 (.iadr 3 (t 19) (t 20)), s 24 (f_ 1 23), s 25 (f_ 0 24), ⟨none, none, (.store 1 (t 25) (t 22))⟩]) (q_ (r_ [v_ 26 1, s 27 (.bin .add (t 26) (i_ 1)), v_ 1 27]) (r_ [v_ 28 0, v_ 29 5, s 30 (.iadr 3 (t 28) (t 29)), s 31 (f_ 1 30), s 32 (f_ 1 31), s 33 (l_ 32), v_ 34 1, s 35 (.call 65 [t 33, t 34]), v_ 1 35])))))) (r_ [v_ 10 5, s 11 (.bin .add (t 10) (i_ 1)), v_ 5 11])))))) (q_ (r_ [v_ 36 1, v_ 4 36]) .ret)))
def markActionS.keep : List Nat := [0, 1, 4, 5]
def markActionS.res : List RRes := [.tmp 4]
theorem markActionS.ofT {mo : Bool} {b0 : List ABox} {x' : Tr} {args : List AV} {r : AV} (hr : isScalR r = true) (hn : Nat.ble args.length Tryz.f63.ntmps = true) (hx : nb x' = b0.length) (h : aCode (Kn mo Tryz.prog) markActionS.keep b0.length markActionS.code (doneT markActionS.res b0.length r (gb x' 0)) ⟨argEnv 0 args, b0, []⟩) : Abs.Turn mo Tryz.prog 63 b0 args r (gb x' 0) :=
 Abs.Turn.of_ir hr Tryz.func63 rfl (by kernel_rfl) (Nat.le_of_ble_eq_true hn) (by kernel_rfl) (by kernel_rfl) hx h
abbrev markActionS.Turn (b0 : List ABox) (args : List AV) (r : AV) (b1 : List ABox) : Prop := Abs.Turn true Tryz.prog 63 b0 args r b1
def markCondS.code : ACode := (q_ (r_ [s 4 (.mv (i_ 0))]) (q_ (q_ (r_ [s 5 (.mv (i_ 0))]) (.block 0 (.loop (q_ (q_ (r_ [v_ 6 5, v_ 7 0, s 8 (.len false (t 7)), s 9 (.bin .lss (t 6) (t 8))]) (.cond (t 9) .skip (.exit 0))) (q_ (.block 1 (q_ (r_ [v_ 12 0, v_ 13 5, v_ 14 1, s 15 (.iadr 5 (t 12) (t 13)), s 16 (f_ 0 15), ⟨none, none, (.store 1 (t 16) (t 14))⟩]) (q_ (r_ [v_ 17 1, s 18 (.bin .add (t 17) (i_ 1)), v_ 1 18]) (q_ (r_ [v_ 19 0, v_ 20 5, v_ 21 1, s 22 (.call 64 [t 21]), s 23 (.iadr 5 (t 19) (t 20)), s 24 (f_ 1 23), s 25 (f_ 0 24), ⟨none, none, (.store 1 (t 25) (t 22))⟩]) (q_ (r_ [v_ 26 1, s 27 (.bin .add (t 26) (i_ 1)), v_ 1 27]) (q_ (r_ [v_ 28 0, v_ 29 5, s 30 (.iadr 5 (t 28) (t 29)), s 31 (f_ 1 30), s 32 (f_ 1 31), s 33 (l_ 32), v_ 34 1, s 35 (.call 65 [t 33, t 34]), v_ 1 35]) (q_ (r_ [v_ 36 0, v_ 37 5, v_ 38 1, s 39 (.call 64 [t 38]), s 40 (.iadr 5 (t 36) (t 37)), s 41 (f_ 3 40), ⟨none, none, (.store 1 (t 41) (t 39))⟩]) (q_ (r_ [v_ 42 1, s 43 (.bin .add (t 42) (i_ 1)), v_ 1 43]) (q_ (r_ [v_ 44 0, v_ 45 5, v_ 46 1, s 47 (.call 64 [t 46]), s 48 (.iadr 5 (t 44) (t 45)), s 49 (f_ 4 48), ⟨none, none, (.store 1 (t 49) (t 47))⟩]) (r_ [v_ 50 1, s 51 (.bin .add (t 50) (i_ 1)), v_ 1 51])))))))))) (r_ [v_ 10 5, s 11 (.bin .add (t 10) (i_ 1)), v_ 5 11])))))) (q_ (r_ [v_ 52 1, v_ 4 52]) .ret)))
def markCondS.keep : List Nat := [0, 1, 4, 5]
def markCondS.res : List RRes := [.tmp 4]
theorem markCondS.ofT {mo : Bool} {b0 : List ABox} {x' : Tr} {args : List AV} {r : AV} (hr : isScalR r = true) (hn : Nat.ble args.length Tryz.f62.ntmps = true) (hx : nb x' = b0.length) (h : aCode (Kn mo Tryz.prog) markCondS.keep b0.length markCondS.code (doneT markCondS.res b0.length r (gb x' 0)) ⟨argEnv 0 args, b0, []⟩) : Abs.Turn mo Tryz.prog 62 b0 args r (gb x' 0) :=
 Abs.Turn.of_ir hr Tryz.func62 rfl (by kernel_rfl) (Nat.le_of_ble_eq_true hn) (by kernel_rfl) (by kernel_rfl) hx h
abbrev markCondS.Turn (b0 : List ABox) (args : List AV) (r : AV) (b1 : List ABox) : Prop := Abs.Turn true Tryz.prog 62 b0 args r b1
def markFactS.code : ACode := (q_ (r_ [s 4 (.mv (i_ 0))]) (q_ (q_ (r_ [s 5 (.mv (i_ 0))]) (.block 0 (.loop (q_ (q_ (r_ [v_ 6 5, v_ 7 0, s 8 (.len false (t 7)), s 9 (.bin .lss (t 6) (t 8))]) (.cond (t 9) .skip (.exit 0))) (q_ (.block 1 (q_ (r_ [v_ 12 0, v_ 13 5, v_ 14 1, s 15 (.call 64 [t 14]), s 16 (.iadr 2 (t 12) (t 13)), s 17 (f_ 0 16), ⟨none, none, (.store 1 (t 17) (t 15))⟩]) (q_ (r_ [v_ 18 1, s 19 (.bin .add (t 18) (i_ 1)), v_ 1 19]) (r_ [v_ 20 0, v_ 21 5, s 22 (.iadr 2 (t 20) (t 21)), s 23 (f_ 1 22), s 24 (l_ 23), v_ 25 1, s 26 (.call 65 [t 24, t 25]), v_ 1 26])))) (r_ [v_ 10 5, s 11 (.bin .add (t 10) (i_ 1)), v_ 5 11])))))) (q_ (r_ [v_ 27 1, v_ 4 27]) .ret)))
def markFactS.keep : List Nat := [0, 1, 4, 5]
def markFactS.res : List RRes := [.tmp 4]
theorem markFactS.ofT {mo : Bool} {b0 : List ABox} {x' : Tr} {args : List AV} {r : AV} (hr : isScalR r = true) (hn : Nat.ble args.length Tryz.f19.ntmps = true) (hx : nb x' = b0.length) (h : aCode (Kn mo Tryz.prog) markFactS.keep b0.length markFactS.code (doneT markFactS.res b0.length r (gb x' 0)) ⟨argEnv 0 args, b0, []⟩) : Abs.Turn mo Tryz.prog 19 b0 args r (gb x' 0) :=
 Abs.Turn.of_ir hr Tryz.func19 rfl (by kernel_rfl) (Nat.le_of_ble_eq_true hn) (by kernel_rfl) (by kernel_rfl) hx h
abbrev markFactS.Turn (b0 : List ABox) (args : List AV) (r : AV) (b1 : List ABox) : Prop := Abs.Turn true Tryz.prog 19 b0 args r b1
def markMatchS.code : ACode := (q_ (r_ [s 4 (.mv (i_ 0))]) (q_ (q_ (r_ [s 5 (.mv (i_ 0))]) (.block 0 (.loop (q_ (q_ (r_ [v_ 6 5, v_ 7 0, s 8 (.len false (t 7)), s 9 (.bin .lss (t 6) (t 8))]) (.cond (t 9) .skip (.exit 0))) (q_ (.block 1 (q_ (r_ [v_ 12 0, v_ 13 5, v_ 14 1, s 15 (.call 64 [t 14]), s 16 (.iadr 3 (t 12) (t 13)), s 17 (f_ 0 16), ⟨none, none, (.store 1 (t 17) (t 15))⟩]) (q_ (r_ [v_ 18 1, s 19 (.bin .add (t 18) (i_ 1)), v_ 1 19]) (q_ (r_ [v_ 20 0, v_ 21 5, s 22 (.iadr 3 (t 20) (t 21)), s 23 (f_ 1 22), s 24 (l_ 23), v_ 25 1, s 26 (.call 19 [t 24, t 25]), v_ 1 26]) (r_ [v_ 27 0, v_ 28 5, s 29 (.iadr 3 (t 27) (t 28)), s 30 (f_ 2 29), s 31 (l_ 30), v_ 32 1, s 33 (.call 66 [t 31, t 32]), v_ 1 33]))))) (r_ [v_ 10 5, s 11 (.bin .add (t 10) (i_ 1)), v_ 5 11])))))) (q_ (r_ [v_ 34 1, v_ 4 34]) .ret)))
def markMatchS.keep : List Nat := [0, 1, 4, 5]
def markMatchS.res : List RRes := [.tmp 4]
theorem markMatchS.ofT {mo : Bool} {b0 : List ABox} {x' : Tr} {args : List AV} {r : AV} (hr : isScalR r = true) (hn : Nat.ble args.length Tryz.f25.ntmps = true) (hx : nb x' = b0.length) (h : aCode (Kn mo Tryz.prog) markMatchS.keep b0.length markMatchS.code (doneT markMatchS.res b0.length r (gb x' 0)) ⟨argEnv 0 args, b0, []⟩) : Abs.Turn mo Tryz.prog 25 b0 args r (gb x' 0) :=
 Abs.Turn.of_ir hr Tryz.func25 rfl (by kernel_rfl) (Nat.le_of_ble_eq_true hn) (by kernel_rfl) (by kernel_rfl) hx h
abbrev markMatchS.Turn (b0 : List ABox) (args : List AV) (r : AV) (b1 : List ABox) : Prop := Abs.Turn true Tryz.prog 25 b0 args r b1
def markPairS.code : ACode := (q_ (r_ [s 4 (.mv (i_ 0))]) (q_ (q_ (r_ [s 5 (.mv (i_ 0))]) (.block 0 (.loop (q_ (q_ (r_ [v_ 6 5, v_ 7 0, s 8 (.len false (t 7)), s 9 (.bin .lss (t 6) (t 8))]) (.cond (t 9) .skip (.exit 0))) (q_ (.block 1 (q_ (r_ [v_ 12 0, v_ 13 5, v_ 14 1, s 15 (.call 64 [t 14]), s 16 (.iadr 2 (t 12) (t 13)), s 17 (f_ 0 16), ⟨none, none, (.store 1 (t 17) (t 15))⟩]) (q_ (r_ [v_ 18 1, s 19 (.bin .add (t 18) (i_ 1)), v_ 1 19]) (q_ (r_ [v_ 20 0, v_ 21 5, v_ 22 1, s 23 (.call 64 [t 22]), s 24 (.iadr 2 (t 20) (t 21)), s 25 (f_ 1 24), ⟨none, none, (.store 1 (t 25) (t 23))⟩]) (r_ [v_ 26 1, s 27 (.bin .add (t 26) (i_ 1)), v_ 1 27]))))) (r_ [v_ 10 5, s 11 (.bin .add (t 10) (i_ 1)), v_ 5 11])))))) (q_ (r_ [v_ 28 1, v_ 4 28]) .ret)))
def markPairS.keep : List Nat := [0, 1, 4, 5]
def markPairS.res : List RRes := [.tmp 4]
theorem markPairS.ofT {mo : Bool} {b0 : List ABox} {x' : Tr} {args : List AV} {r : AV} (hr : isScalR r = true) (hn : Nat.ble args.length Tryz.f66.ntmps = true) (hx : nb x' = b0.length) (h : aCode (Kn mo Tryz.prog) markPairS.keep b0.length markPairS.code (doneT markPairS.res b0.length r (gb x' 0)) ⟨argEnv 0 args, b0, []⟩) : Abs.Turn mo Tryz.prog 66 b0 args r (gb x' 0) :=
 Abs.Turn.of_ir hr Tryz.func66 rfl (by kernel_rfl) (Nat.le_of_ble_eq_true hn) (by kernel_rfl) (by kernel_rfl) hx h
abbrev markPairS.Turn (b0 : List ABox) (args : List AV) (r : AV) (b1 : List ABox) : Prop := Abs.Turn true Tryz.prog 66 b0 args r b1
def markRuleS.code : ACode := (q_ (r_ [s 4 (.mv (i_ 0))]) (q_ (q_ (r_ [s 5 (.mv (i_ 0))]) (.block 0 (.loop (q_ (q_ (r_ [v_ 6 5, v_ 7 0, s 8 (.len false (t 7)), s 9 (.bin .lss (t 6) (t 8))]) (.cond (t 9) .skip (.exit 0))) (q_ (.block 1 (q_ (r_ [v_ 12 0, v_ 13 5, v_ 14 1, s 15 (.call 64 [t 14]), s 16 (.iadr 4 (t 12) (t 13)), s 17 (f_ 0 16), ⟨none, none, (.store 1 (t 17) (t 15))⟩]) (q_ (r_ [v_ 18 1, s 19 (.bin .add (t 18) (i_ 1)), v_ 1 19]) (q_ (r_ [v_ 20 0, v_ 21 5, v_ 22 1, s 23 (.iadr 4 (t 20) (t 21)), s 24 (f_ 1 23), ⟨none, none, (.store 1 (t 24) (t 22))⟩]) (q_ (r_ [v_ 25 1, s 26 (.bin .add (t 25) (i_ 1)), v_ 1 26]) (q_ (r_ [v_ 27 0, v_ 28 5, s 29 (.iadr 4 (t 27) (t 28)), s 30 (f_ 2 29), s 31 (l_ 30), v_ 32 1, s 33 (.call 62 [t 31, t 32]), v_ 1 33]) (r_ [v_ 34 0, v_ 35 5, s 36 (.iadr 4 (t 34) (t 35)), s 37 (f_ 3 36), s 38 (l_ 37), v_ 39 1, s 40 (.call 63 [t 38, t 39]), v_ 1 40]))))))) (r_ [v_ 10 5, s 11 (.bin .add (t 10) (i_ 1)), v_ 5 11])))))) (q_ (r_ [v_ 41 1, v_ 4 41]) .ret)))
def markRuleS.keep : List Nat := [0, 1, 4, 5]
def markRuleS.res : List RRes := [.tmp 4]
theorem markRuleS.ofT {mo : Bool} {b0 : List ABox} {x' : Tr} {args : List AV} {r : AV} (hr : isScalR r = true) (hn : Nat.ble args.length Tryz.f32.ntmps = true) (hx : nb x' = b0.length) (h : aCode (Kn mo Tryz.prog) markRuleS.keep b0.length markRuleS.code (doneT markRuleS.res b0.length r (gb x' 0)) ⟨argEnv 0 args, b0, []⟩) : Abs.Turn mo Tryz.prog 32 b0 args r (gb x' 0) :=
 Abs.Turn.of_ir hr Tryz.func32 rfl (by kernel_rfl) (Nat.le_of_ble_eq_true hn) (by kernel_rfl) (by kernel_rfl) hx h
abbrev markRuleS.Turn (b0 : List ABox) (args : List AV) (r : AV) (b1 : List ABox) : Prop := Abs.Turn true Tryz.prog 32 b0 args r b1
def markStringS.code : ACode := (q_ (r_ [s 4 (.mv (i_ 0))]) (q_ (q_ (r_ [s 5 (.mv (i_ 0))]) (.block 0 (.loop (q_ (q_ (r_ [v_ 6 5, v_ 7 0, s 8 (.len false (t 7)), s 9 (.bin .lss (t 6) (t 8))]) (.cond (t 9) .skip (.exit 0))) (q_ (.block 1 (q_ (r_ [v_ 12 0, v_ 13 5, v_ 14 1, s 15 (.call 64 [t 14]), s 16 (.iadr 1 (t 12) (t 13)), ⟨none, none, (.store 1 (t 16) (t 15))⟩]) (r_ [v_ 17 1, s 18 (.bin .add (t 17) (i_ 1)), v_ 1 18]))) (r_ [v_ 10 5, s 11 (.bin .add (t 10) (i_ 1)), v_ 5 11])))))) (q_ (r_ [v_ 19 1, v_ 4 19]) .ret)))
def markStringS.keep : List Nat := [0, 1, 4, 5]
def markStringS.res : List RRes := [.tmp 4]
theorem markStringS.ofT {mo : Bool} {b0 : List ABox} {x' : Tr} {args : List AV} {r : AV} (hr : isScalR r = true) (hn : Nat.ble args.length Tryz.f65.ntmps = true) (hx : nb x' = b0.length) (h : aCode (Kn mo Tryz.prog) markStringS.keep b0.length markStringS.code (doneT markStringS.res b0.length r (gb x' 0)) ⟨argEnv 0 args, b0, []⟩) : Abs.Turn mo Tryz.prog 65 b0 args r (gb x' 0) :=
 Abs.Turn.of_ir hr Tryz.func65 rfl (by kernel_rfl) (Nat.le_of_ble_eq_true hn) (by kernel_rfl) (by kernel_rfl) hx h
abbrev markStringS.Turn (b0 : List ABox) (args : List AV) (r : AV) (b1 : List ABox) : Prop := Abs.Turn true Tryz.prog 65 b0 args r b1
def markText.code : ACode := (q_ (r_ [s 2 (.mv (.const (.string (.mk #[]))))]) (q_ (q_ (r_ [v_ 4 0, s 5 (.bin .leq (t 4) (i_ 0))]) (.cond (t 5) (q_ (r_ [s 2 (.mv (.const (.string (.mk #[109, 48]))))]) .ret) .skip)) (q_ (r_ [s 3 (.mv (.const (.string (.mk #[]))))]) (q_ (.block 0 (.loop (q_ (q_ (r_ [v_ 6 0, s 7 (.bin .gtr (t 6) (i_ 0))]) (.cond (t 7) .skip (.exit 0))) (.block 1 (q_ (r_ [v_ 8 0, s 9 (.bin .rem (t 8) (i_ 10)), s 10 (.bin .add (i_ 48) (t 9)), s 11 (.conv .u8 (t 10)), s 12 (.bslice 5 1 true [t 11]), s 13 (.b2s (t 12)), v_ 14 3, s 15 (.bin .add (t 13) (t 14)), v_ 3 15]) (r_ [v_ 16 0, s 17 (.bin .quo (t 16) (i_ 10)), v_ 0 17])))))) (q_ (r_ [v_ 18 3, s 19 (.bin .add (.const (.string (.mk #[109]))) (t 18)), v_ 2 19]) .ret)))))
theorem markText.ir : IrAt Tryz.prog 64 markText.code [0, 2, 3] [.tmp 2] Tryz.f64.ntmps := ir_ Tryz.func64
abbrev markText.Ret (args : List AV) (r : AV) (frs : Fr) : Prop := Abs.Ret true Tryz.prog 64 args r frs
def szAction.code : ACode := (q_ (r_ [s 2 (.box (t 0)), s 4 (.mv (i_ 0))]) (q_ (r_ [s 5 (f_ 1 2), s 6 (a_ 2 5), v_ 7 1, s 8 (.call 119 [t 6, t 7]), v_ 1 8]) (q_ (q_ (r_ [v_ 9 1, s 10 (.bin .lss (t 9) (i_ 0))]) (.cond (t 10) (q_ (r_ [s 4 (.mv (.const (.int .i64 (-1))))]) .ret) .skip)) (q_ (r_ [v_ 11 1, v_ 4 11]) .ret))))
theorem szAction.ir : IrAt Tryz.prog 79 szAction.code [0, 1, 2, 4] [.tmp 4] Tryz.f79.ntmps := ir_ Tryz.func79
abbrev szAction.Ret (args : List AV) (r : AV) (frs : Fr) : Prop := Abs.Ret true Tryz.prog 79 args r frs
def szActionS.code : ACode := (q_ (r_ [s 4 (.mv (i_ 0))]) (q_ (r_ [v_ 6 1, v_ 7 0, s 8 (.len false (t 7)), s 9 (.bin .sub (t 6) (t 8)), v_ 1 9]) (q_ (q_ (r_ [v_ 10 1, s 11 (.bin .lss (t 10) (i_ 0))]) (.cond (t 11) (q_ (r_ [s 4 (.mv (.const (.int .i64 (-1))))]) .ret) .skip)) (q_ (q_ (r_ [s 5 (.mv (i_ 0))]) (.block 0 (.loop (q_ (q_ (r_ [v_ 12 5, v_ 13 0, s 14 (.len false (t 13)), s 15 (.bin .lss (t 12) (t 14))]) (.cond (t 15) .skip (.exit 0))) (q_ (.block 1 (q_ (r_ [v_ 18 0, v_ 19 5, s 20 (.iadr 3 (t 18) (t 19)), s 21 (a_ 3 20), v_ 22 1, s 23 (.call 79 [t 21, t 22]), v_ 1 23]) (q_ (r_ [v_ 24 1, s 25 (.bin .lss (t 24) (i_ 0))]) (.cond (t 25) (q_ (r_ [s 4 (.mv (.const (.int .i64 (-1))))]) .ret) .skip)))) (r_ [v_ 16 5, s 17 (.bin .add (t 16) (i_ 1)), v_ 5 17])))))) (q_ (r_ [v_ 26 1, v_ 4 26]) .ret)))))
theorem szActionS.ir : IrAt Tryz.prog 46 szActionS.code [0, 1, 4, 5] [.tmp 4] Tryz.f46.ntmps := ir_ Tryz.func46
abbrev szActionS.Ret (args : List AV) (r : AV) (frs : Fr) : Prop := Abs.Ret true Tryz.prog 46 args r frs
def szCond.code : ACode := (q_ (r_ [s 2 (.box (t 0)), s 4 (.mv (i_ 0))]) (q_ (r_ [s 5 (f_ 1 2), s 6 (a_ 2 5), v_ 7 1, s 8 (.call 119 [t 6, t 7]), v_ 1 8]) (q_ (q_ (r_ [v_ 9 1, s 10 (.bin .lss (t 9) (i_ 0))]) (.cond (t 10) (q_ (r_ [s 4 (.mv (.const (.int .i64 (-1))))]) .ret) .skip)) (q_ (r_ [v_ 11 1, s 12 (f_ 3 2), s 13 (l_ 12), s 14 (.len true (t 13)), s 15 (.bin .sub (t 11) (t 14)), v_ 1 15]) (q_ (q_ (r_ [v_ 16 1, s 17 (.bin .lss (t 16) (i_ 0))]) (.cond (t 17) (q_ (r_ [s 4 (.mv (.const (.int .i64 (-1))))]) .ret) .skip)) (q_ (r_ [v_ 18 1, s 19 (f_ 4 2), s 20 (l_ 19), s 21 (.len true (t 20)), s 22 (.bin .sub (t 18) (t 21)), v_ 1 22]) (q_ (q_ (r_ [v_ 23 1, s 24 (.bin .lss (t 23) (i_ 0))]) (.cond (t 24) (q_ (r_ [s 4 (.mv (.const (.int .i64 (-1))))]) .ret) .skip)) (q_ (r_ [v_ 25 1, v_ 4 25]) .ret))))))))
theorem szCond.ir : IrAt Tryz.prog 78 szCond.code [0, 1, 2, 4] [.tmp 4] Tryz.f78.ntmps := ir_ Tryz.func78
abbrev szCond.Ret (args : List AV) (r : AV) (frs : Fr) : Prop := Abs.Ret true Tryz.prog 78 args r frs
def szCondS.code : ACode := (q_ (r_ [s 4 (.mv (i_ 0))]) (q_ (r_ [v_ 6 1, v_ 7 0, s 8 (.len false (t 7)), s 9 (.bin .sub (t 6) (t 8)), v_ 1 9]) (q_ (q_ (r_ [v_ 10 1, s 11 (.bin .lss (t 10) (i_ 0))]) (.cond (t 11) (q_ (r_ [s 4 (.mv (.const (.int .i64 (-1))))]) .ret) .skip)) (q_ (q_ (r_ [s 5 (.mv (i_ 0))]) (.block 0 (.loop (q_ (q_ (r_ [v_ 12 5, v_ 13 0, s 14 (.len false (t 13)), s 15 (.bin .lss (t 12) (t 14))]) (.cond (t 15) .skip (.exit 0))) (q_ (.block 1 (q_ (r_ [v_ 18 0, v_ 19 5, s 20 (.iadr 5 (t 18) (t 19)), s 21 (a_ 5 20), v_ 22 1, s 23 (.call 78 [t 21, t 22]), v_ 1 23]) (q_ (r_ [v_ 24 1, s 25 (.bin .lss (t 24) (i_ 0))]) (.cond (t 25) (q_ (r_ [s 4 (.mv (.const (.int .i64 (-1))))]) .ret) .skip)))) (r_ [v_ 16 5, s 17 (.bin .add (t 16) (i_ 1)), v_ 5 17])))))) (q_ (r_ [v_ 26 1, v_ 4 26]) .ret)))))
theorem szCondS.ir : IrAt Tryz.prog 45 szCondS.code [0, 1, 4, 5] [.tmp 4] Tryz.f45.ntmps := ir_ Tryz.func45
abbrev szCondS.Ret (args : List AV) (r : AV) (frs : Fr) : Prop := Abs.Ret true Tryz.prog 45 args r frs
def szFact.code : ACode := (q_ (r_ [s 2 (.box (t 0)), s 4 (.mv (i_ 0))]) (q_ (r_ [v_ 5 1, s 6 (f_ 0 2), s 7 (l_ 6), s 8 (.len true (t 7)), s 9 (.bin .sub (t 5) (t 8)), v_ 1 9]) (q_ (q_ (r_ [v_ 10 1, s 11 (.bin .lss (t 10) (i_ 0))]) (.cond (t 11) (q_ (r_ [s 4 (.mv (.const (.int .i64 (-1))))]) .ret) .skip)) (q_ (r_ [s 12 (f_ 1 2), s 13 (l_ 12), v_ 14 1, s 15 (.call 80 [t 13, t 14]), v_ 1 15]) (q_ (q_ (r_ [v_ 16 1, s 17 (.bin .lss (t 16) (i_ 0))]) (.cond (t 17) (q_ (r_ [s 4 (.mv (.const (.int .i64 (-1))))]) .ret) .skip)) (q_ (r_ [v_ 18 1, v_ 4 18]) .ret))))))
theorem szFact.ir : IrAt Tryz.prog 47 szFact.code [0, 1, 2, 4] [.tmp 4] Tryz.f47.ntmps := ir_ Tryz.func47
abbrev szFact.Ret (args : List AV) (r : AV) (frs : Fr) : Prop := Abs.Ret true Tryz.prog 47 args r frs
def szFactS.code : ACode := (q_ (r_ [s 4 (.mv (i_ 0))]) (q_ (r_ [v_ 6 1, v_ 7 0, s 8 (.len false (t 7)), s 9 (.bin .sub (t 6) (t 8)), v_ 1 9]) (q_ (q_ (r_ [v_ 10 1, s 11 (.bin .lss (t 10) (i_ 0))]) (.cond (t 11) (q_ (r_ [s 4 (.mv (.const (.int .i64 (-1))))]) .ret) .skip)) (q_ (q_ (r_ [s 5 (.mv (i_ 0))]) (.block 0 (.loop (q_ (q_ (r_ [v_ 12 5, v_ 13 0, s 14 (.len false (t 13)), s 15 (.bin .lss (t 12) (t 14))]) (.cond (t 15) .skip (.exit 0))) (q_ (.block 1 (q_ (r_ [v_ 18 0, v_ 19 5, s 20 (.iadr 2 (t 18) (t 19)), s 21 (a_ 2 20), v_ 22 1, s 23 (.call 47 [t 21, t 22]), v_ 1 23]) (q_ (r_ [v_ 24 1, s 25 (.bin .lss (t 24) (i_ 0))]) (.cond (t 25) (q_ (r_ [s 4 (.mv (.const (.int .i64 (-1))))]) .ret) .skip)))) (r_ [v_ 16 5, s 17 (.bin .add (t 16) (i_ 1)), v_ 5 17])))))) (q_ (r_ [v_ 26 1, v_ 4 26]) .ret)))))
theorem szFactS.ir : IrAt Tryz.prog 10 szFactS.code [0, 1, 4, 5] [.tmp 4] Tryz.f10.ntmps := ir_ Tryz.func10
abbrev szFactS.Ret (args : List AV) (r : AV) (frs : Fr) : Prop := Abs.Ret true Tryz.prog 10 args r frs
def szPattern.code : ACode := (q_ (r_ [s 2 (.box (t 0)), s 4 (.mv (i_ 0))]) (q_ (r_ [v_ 5 1, s 6 (f_ 0 2), s 7 (l_ 6), s 8 (.len true (t 7)), s 9 (.bin .sub (t 5) (t 8)), v_ 1 9]) (q_ (q_ (r_ [v_ 10 1, s 11 (.bin .lss (t 10) (i_ 0))]) (.cond (t 11) (q_ (r_ [s 4 (.mv (.const (.int .i64 (-1))))]) .ret) .skip)) (q_ (r_ [s 12 (f_ 1 2), s 13 (l_ 12), v_ 14 1, s 15 (.call 80 [t 13, t 14]), v_ 1 15]) (q_ (q_ (r_ [v_ 16 1, s 17 (.bin .lss (t 16) (i_ 0))]) (.cond (t 17) (q_ (r_ [s 4 (.mv (.const (.int .i64 (-1))))]) .ret) .skip)) (q_ (r_ [v_ 18 1, v_ 4 18]) .ret))))))
theorem szPattern.ir : IrAt Tryz.prog 119 szPattern.code [0, 1, 2, 4] [.tmp 4] Tryz.f119.ntmps := ir_ Tryz.func119
abbrev szPattern.Ret (args : List AV) (r : AV) (frs : Fr) : Prop := Abs.Ret true Tryz.prog 119 args r frs
def szRule.code : ACode := (q_ (r_ [s 2 (.box (t 0)), s 4 (.mv (i_ 0))]) (q_ (r_ [v_ 5 1, s 6 (f_ 0 2), s 7 (l_ 6), s 8 (.len true (t 7)), s 9 (.bin .sub (t 5) (t 8)), v_ 1 9]) (q_ (q_ (r_ [v_ 10 1, s 11 (.bin .lss (t 10) (i_ 0))]) (.cond (t 11) (q_ (r_ [s 4 (.mv (.const (.int .i64 (-1))))]) .ret) .skip)) (q_ (r_ [s 12 (f_ 2 2), s 13 (l_ 12), v_ 14 1, s 15 (.call 45 [t 13, t 14]), v_ 1 15]) (q_ (q_ (r_ [v_ 16 1, s 17 (.bin .lss (t 16) (i_ 0))]) (.cond (t 17) (q_ (r_ [s 4 (.mv (.const (.int .i64 (-1))))]) .ret) .skip)) (q_ (r_ [s 18 (f_ 3 2), s 19 (l_ 18), v_ 20 1, s 21 (.call 46 [t 19, t 20]), v_ 1 21]) (q_ (q_ (r_ [v_ 22 1, s 23 (.bin .lss (t 22) (i_ 0))]) (.cond (t 23) (q_ (r_ [s 4 (.mv (.const (.int .i64 (-1))))]) .ret) .skip)) (q_ (r_ [v_ 24 1, v_ 4 24]) .ret))))))))
theorem szRule.ir : IrAt Tryz.prog 9 szRule.code [0, 1, 2, 4] [.tmp 4] Tryz.f9.ntmps := ir_ Tryz.func9
abbrev szRule.Ret (args : List AV) (r : AV) (frs : Fr) : Prop := Abs.Ret true Tryz.prog 9 args r frs
def szRuleS.code : ACode := (q_ (r_ [s 4 (.mv (i_ 0))]) (q_ (r_ [v_ 6 1, v_ 7 0, s 8 (.len false (t 7)), s 9 (.bin .sub (t 6) (t 8)), v_ 1 9]) (q_ (q_ (r_ [v_ 10 1, s 11 (.bin .lss (t 10) (i_ 0))]) (.cond (t 11) (q_ (r_ [s 4 (.mv (.const (.int .i64 (-1))))]) .ret) .skip)) (q_ (q_ (r_ [s 5 (.mv (i_ 0))]) (.block 0 (.loop (q_ (q_ (r_ [v_ 12 5, v_ 13 0, s 14 (.len false (t 13)), s 15 (.bin .lss (t 12) (t 14))]) (.cond (t 15) .skip (.exit 0))) (q_ (.block 1 (q_ (r_ [v_ 18 0, v_ 19 5, s 20 (.iadr 4 (t 18) (t 19)), s 21 (a_ 4 20), v_ 22 1, s 23 (.call 9 [t 21, t 22]), v_ 1 23]) (q_ (r_ [v_ 24 1, s 25 (.bin .lss (t 24) (i_ 0))]) (.cond (t 25) (q_ (r_ [s 4 (.mv (.const (.int .i64 (-1))))]) .ret) .skip)))) (r_ [v_ 16 5, s 17 (.bin .add (t 16) (i_ 1)), v_ 5 17])))))) (q_ (r_ [v_ 26 1, v_ 4 26]) .ret)))))
theorem szRuleS.ir : IrAt Tryz.prog 27 szRuleS.code [0, 1, 4, 5] [.tmp 4] Tryz.f27.ntmps := ir_ Tryz.func27
abbrev szRuleS.Ret (args : List AV) (r : AV) (frs : Fr) : Prop := Abs.Ret true Tryz.prog 27 args r frs
def szStringS.code : ACode := (q_ (r_ [s 4 (.mv (i_ 0))]) (q_ (r_ [v_ 6 1, v_ 7 0, s 8 (.len false (t 7)), s 9 (.bin .sub (t 6) (t 8)), v_ 1 9]) (q_ (q_ (r_ [v_ 10 1, s 11 (.bin .lss (t 10) (i_ 0))]) (.cond (t 11) (q_ (r_ [s 4 (.mv (.const (.int .i64 (-1))))]) .ret) .skip)) (q_ (q_ (r_ [s 5 (.mv (i_ 0))]) (.block 0 (.loop (q_ (q_ (r_ [v_ 12 5, v_ 13 0, s 14 (.len false (t 13)), s 15 (.bin .lss (t 12) (t 14))]) (.cond (t 15) .skip (.exit 0))) (q_ (.block 1 (q_ (r_ [v_ 18 1, v_ 19 0, v_ 20 5, s 21 (.iadr 1 (t 19) (t 20)), s 22 (l_ 21), s 23 (.len true (t 22)), s 24 (.bin .sub (t 18) (t 23)), v_ 1 24]) (q_ (r_ [v_ 25 1, s 26 (.bin .lss (t 25) (i_ 0))]) (.cond (t 26) (q_ (r_ [s 4 (.mv (.const (.int .i64 (-1))))]) .ret) .skip)))) (r_ [v_ 16 5, s 17 (.bin .add (t 16) (i_ 1)), v_ 5 17])))))) (q_ (r_ [v_ 27 1, v_ 4 27]) .ret)))))
theorem szStringS.ir : IrAt Tryz.prog 80 szStringS.code [0, 1, 4, 5] [.tmp 4] Tryz.f80.ntmps := ir_ Tryz.func80
abbrev szStringS.Ret (args : List AV) (r : AV) (frs : Fr) : Prop := Abs.Ret true Tryz.prog 80 args r frs
def toAction.code : ACode := (q_ (r_ [s 1 (.box (t 0)), s 2 (.alloc [(.int .i64 (.ofNat 0)), (.string (.mk (.mk []))), (.slice none 0 0)])]) (q_ (r_ [s 3 (.alloc [(.int .i64 (.ofNat 0)), (.string (.mk (.mk []))), (.slice none 0 0)])]) (q_ (r_ [s 4 (f_ 0 1), s 5 (l_ 4), s 6 (f_ 0 3), ⟨none, none, (.store 1 (t 6) (t 5))⟩]) (q_ (r_ [s 7 (f_ 1 1), s 8 (a_ 2 7), s 9 (.call 132 [t 8]), s 10 (f_ 1 3), ⟨none, none, (.store 2 (t 10) (t 9))⟩]) (q_ (r_ [s 11 (a_ 3 3), ⟨none, none, (.store 3 (t 2) (t 11))⟩]) .ret)))))
theorem toAction.ir : IrAt Tryz.prog 95 toAction.code [0, 1, 2, 3] [.cell 2 true 3] Tryz.f95.ntmps := ir_ Tryz.func95
abbrev toAction.Ret (args : List AV) (r : AV) (frs : Fr) : Prop := Abs.Ret true Tryz.prog 95 args r frs
def toActionS.code : ACode := (q_ (r_ [s 2 (.mv (.const (.slice none 0 0)))]) (q_ (r_ [v_ 5 0, s 6 (.len false (t 5)), s 7 (.make 123 [(.int .i64 (.ofNat 0)), (.string (.mk (.mk []))), (.slice none 0 0)] 3 48 (t 6)), v_ 3 7]) (q_ (q_ (r_ [s 4 (.mv (i_ 0))]) (.block 0 (.loop (q_ (q_ (r_ [v_ 8 4, v_ 9 0, s 10 (.len false (t 9)), s 11 (.bin .lss (t 8) (t 10))]) (.cond (t 11) .skip (.exit 0))) (q_ (.block 1 (r_ [v_ 14 3, v_ 15 4, v_ 16 0, v_ 17 4, s 18 (.iadr 3 (t 16) (t 17)), s 19 (a_ 3 18), s 20 (.call 95 [t 19]), s 21 (.iadr 3 (t 14) (t 15)), ⟨none, none, (.store 3 (t 21) (t 20))⟩])) (r_ [v_ 12 4, s 13 (.bin .add (t 12) (i_ 1)), v_ 4 13])))))) (q_ (r_ [v_ 22 3, v_ 2 22]) .ret))))
theorem toActionS.ir : IrAt Tryz.prog 53 toActionS.code [0, 2, 3, 4] [.tmp 2] Tryz.f53.ntmps := ir_ Tryz.func53
abbrev toActionS.Ret (args : List AV) (r : AV) (frs : Fr) : Prop := Abs.Ret true Tryz.prog 53 args r frs
def toCond.code : ACode := (q_ (r_ [s 1 (.box (t 0)), s 2 (.alloc [(.int .i64 (.ofNat 0)), (.string (.mk (.mk []))), (.slice none 0 0), (.string (.mk (.mk []))), (.string (.mk (.mk [])))])]) (q_ (r_ [s 3 (.alloc [(.int .i64 (.ofNat 0)), (.string (.mk (.mk []))), (.slice none 0 0), (.string (.mk (.mk []))), (.string (.mk (.mk [])))])]) (q_ (r_ [s 4 (f_ 0 1), s 5 (l_ 4), s 6 (f_ 0 3), ⟨none, none, (.store 1 (t 6) (t 5))⟩]) (q_ (r_ [s 7 (f_ 1 1), s 8 (a_ 2 7), s 9 (.call 132 [t 8]), s 10 (f_ 1 3), ⟨none, none, (.store 2 (t 10) (t 9))⟩]) (q_ (r_ [s 11 (f_ 3 1), s 12 (l_ 11), s 13 (f_ 3 3), ⟨none, none, (.store 1 (t 13) (t 12))⟩]) (q_ (r_ [s 14 (f_ 4 1), s 15 (l_ 14), s 16 (f_ 4 3), ⟨none, none, (.store 1 (t 16) (t 15))⟩]) (q_ (r_ [s 17 (a_ 5 3), ⟨none, none, (.store 5 (t 2) (t 17))⟩]) .ret)))))))
theorem toCond.ir : IrAt Tryz.prog 94 toCond.code [0, 1, 2, 3] [.cell 2 true 5] Tryz.f94.ntmps := ir_ Tryz.func94
abbrev toCond.Ret (args : List AV) (r : AV) (frs : Fr) : Prop := Abs.Ret true Tryz.prog 94 args r frs
def toCondS.code : ACode := (q_ (r_ [s 2 (.mv (.const (.slice none 0 0)))]) (q_ (r_ [v_ 5 0, s 6 (.len false (t 5)), s 7 (.make 116 [(.int .i64 (.ofNat 0)), (.string (.mk (.mk []))), (.slice none 0 0), (.string (.mk (.mk []))), (.string (.mk (.mk [])))] 5 80 (t 6)), v_ 3 7]) (q_ (q_ (r_ [s 4 (.mv (i_ 0))]) (.block 0 (.loop (q_ (q_ (r_ [v_ 8 4, v_ 9 0, s 10 (.len false (t 9)), s 11 (.bin .lss (t 8) (t 10))]) (.cond (t 11) .skip (.exit 0))) (q_ (.block 1 (r_ [v_ 14 3, v_ 15 4, v_ 16 0, v_ 17 4, s 18 (.iadr 5 (t 16) (t 17)), s 19 (a_ 5 18), s 20 (.call 94 [t 19]), s 21 (.iadr 5 (t 14) (t 15)), ⟨none, none, (.store 5 (t 21) (t 20))⟩])) (r_ [v_ 12 4, s 13 (.bin .add (t 12) (i_ 1)), v_ 4 13])))))) (q_ (r_ [v_ 22 3, v_ 2 22]) .ret))))
theorem toCondS.ir : IrAt Tryz.prog 52 toCondS.code [0, 2, 3, 4] [.tmp 2] Tryz.f52.ntmps := ir_ Tryz.func52
abbrev toCondS.Ret (args : List AV) (r : AV) (frs : Fr) : Prop := Abs.Ret true Tryz.prog 52 args r frs
def toFact.code : ACode := (q_ (r_ [s 1 (.box (t 0)), s 2 (.alloc [(.string (.mk (.mk []))), (.slice none 0 0)])]) (q_ (r_ [s 3 (.alloc [(.string (.mk (.mk []))), (.slice none 0 0)])]) (q_ (r_ [s 4 (f_ 0 1), s 5 (l_ 4), s 6 (f_ 0 3), ⟨none, none, (.store 1 (t 6) (t 5))⟩]) (q_ (r_ [s 7 (f_ 1 1), s 8 (l_ 7), s 9 (.call 96 [t 8]), s 10 (f_ 1 3), ⟨none, none, (.store 1 (t 10) (t 9))⟩]) (q_ (r_ [s 11 (a_ 2 3), ⟨none, none, (.store 2 (t 2) (t 11))⟩]) .ret)))))
theorem toFact.ir : IrAt Tryz.prog 54 toFact.code [0, 1, 2, 3] [.cell 2 true 2] Tryz.f54.ntmps := ir_ Tryz.func54
abbrev toFact.Ret (args : List AV) (r : AV) (frs : Fr) : Prop := Abs.Ret true Tryz.prog 54 args r frs
def toFactS.code : ACode := (q_ (r_ [s 2 (.mv (.const (.slice none 0 0)))]) (q_ (r_ [v_ 5 0, s 6 (.len false (t 5)), s 7 (.make 86 [(.string (.mk (.mk []))), (.slice none 0 0)] 2 40 (t 6)), v_ 3 7]) (q_ (q_ (r_ [s 4 (.mv (i_ 0))]) (.block 0 (.loop (q_ (q_ (r_ [v_ 8 4, v_ 9 0, s 10 (.len false (t 9)), s 11 (.bin .lss (t 8) (t 10))]) (.cond (t 11) .skip (.exit 0))) (q_ (.block 1 (r_ [v_ 14 3, v_ 15 4, v_ 16 0, v_ 17 4, s 18 (.iadr 2 (t 16) (t 17)), s 19 (a_ 2 18), s 20 (.call 54 [t 19]), s 21 (.iadr 2 (t 14) (t 15)), ⟨none, none, (.store 2 (t 21) (t 20))⟩])) (r_ [v_ 12 4, s 13 (.bin .add (t 12) (i_ 1)), v_ 4 13])))))) (q_ (r_ [v_ 22 3, v_ 2 22]) .ret))))
theorem toFactS.ir : IrAt Tryz.prog 13 toFactS.code [0, 2, 3, 4] [.tmp 2] Tryz.f13.ntmps := ir_ Tryz.func13
abbrev toFactS.Own (args : List AV) (x : Tr) : Prop := Abs.Own true Tryz.prog 13 args x
abbrev toFactS.Ret (args : List AV) (r : AV) (frs : Fr) : Prop := Abs.Ret true Tryz.prog 13 args r frs
def toPattern.code : ACode := (q_ (r_ [s 1 (.box (t 0)), s 2 (.alloc [(.string (.mk (.mk []))), (.slice none 0 0)])]) (q_ (r_ [s 3 (.alloc [(.string (.mk (.mk []))), (.slice none 0 0)])]) (q_ (r_ [s 4 (f_ 0 1), s 5 (l_ 4), s 6 (f_ 0 3), ⟨none, none, (.store 1 (t 6) (t 5))⟩]) (q_ (r_ [s 7 (f_ 1 1), s 8 (l_ 7), s 9 (.call 96 [t 8]), s 10 (f_ 1 3), ⟨none, none, (.store 1 (t 10) (t 9))⟩]) (q_ (r_ [s 11 (a_ 2 3), ⟨none, none, (.store 2 (t 2) (t 11))⟩]) .ret)))))
theorem toPattern.ir : IrAt Tryz.prog 132 toPattern.code [0, 1, 2, 3] [.cell 2 true 2] Tryz.f132.ntmps := ir_ Tryz.func132
abbrev toPattern.Ret (args : List AV) (r : AV) (frs : Fr) : Prop := Abs.Ret true Tryz.prog 132 args r frs
def toRule.code : ACode := (q_ (r_ [s 1 (.box (t 0)), s 2 (.alloc [(.string (.mk (.mk []))), (.int .i64 (.ofNat 0)), (.slice none 0 0), (.slice none 0 0)])]) (q_ (r_ [s 3 (.alloc [(.string (.mk (.mk []))), (.int .i64 (.ofNat 0)), (.slice none 0 0), (.slice none 0 0)])]) (q_ (r_ [s 4 (f_ 0 1), s 5 (l_ 4), s 6 (f_ 0 3), ⟨none, none, (.store 1 (t 6) (t 5))⟩]) (q_ (r_ [s 7 (f_ 1 1), s 8 (l_ 7), s 9 (f_ 1 3), ⟨none, none, (.store 1 (t 9) (t 8))⟩]) (q_ (r_ [s 10 (f_ 2 1), s 11 (l_ 10), s 12 (.call 52 [t 11]), s 13 (f_ 2 3), ⟨none, none, (.store 1 (t 13) (t 12))⟩]) (q_ (r_ [s 14 (f_ 3 1), s 15 (l_ 14), s 16 (.call 53 [t 15]), s 17 (f_ 3 3), ⟨none, none, (.store 1 (t 17) (t 16))⟩]) (q_ (r_ [s 18 (a_ 4 3), ⟨none, none, (.store 4 (t 2) (t 18))⟩]) .ret)))))))
theorem toRule.ir : IrAt Tryz.prog 12 toRule.code [0, 1, 2, 3] [.cell 2 true 4] Tryz.f12.ntmps := ir_ Tryz.func12
abbrev toRule.Ret (args : List AV) (r : AV) (frs : Fr) : Prop := Abs.Ret true Tryz.prog 12 args r frs
def toRuleS.code : ACode := (q_ (r_ [s 2 (.mv (.const (.slice none 0 0)))]) (q_ (r_ [v_ 5 0, s 6 (.len false (t 5)), s 7 (.make 34 [(.string (.mk (.mk []))), (.int .i64 (.ofNat 0)), (.slice none 0 0), (.slice none 0 0)] 4 72 (t 6)), v_ 3 7]) (q_ (q_ (r_ [s 4 (.mv (i_ 0))]) (.block 0 (.loop (q_ (q_ (r_ [v_ 8 4, v_ 9 0, s 10 (.len false (t 9)), s 11 (.bin .lss (t 8) (t 10))]) (.cond (t 11) .skip (.exit 0))) (q_ (.block 1 (r_ [v_ 14 3, v_ 15 4, v_ 16 0, v_ 17 4, s 18 (.iadr 4 (t 16) (t 17)), s 19 (a_ 4 18), s 20 (.call 12 [t 19]), s 21 (.iadr 4 (t 14) (t 15)), ⟨none, none, (.store 4 (t 21) (t 20))⟩])) (r_ [v_ 12 4, s 13 (.bin .add (t 12) (i_ 1)), v_ 4 13])))))) (q_ (r_ [v_ 22 3, v_ 2 22]) .ret))))
theorem toRuleS.ir : IrAt Tryz.prog 29 toRuleS.code [0, 2, 3, 4] [.tmp 2] Tryz.f29.ntmps := ir_ Tryz.func29
abbrev toRuleS.Own (args : List AV) (x : Tr) : Prop := Abs.Own true Tryz.prog 29 args x
abbrev toRuleS.Ret (args : List AV) (r : AV) (frs : Fr) : Prop := Abs.Ret true Tryz.prog 29 args r frs
def toStringS.code : ACode := (q_ (r_ [s 2 (.mv (.const (.slice none 0 0)))]) (q_ (r_ [v_ 5 0, s 6 (.len false (t 5)), s 7 (.make 9 [(.string (.mk (.mk [])))] 1 16 (t 6)), v_ 3 7]) (q_ (q_ (r_ [s 4 (.mv (i_ 0))]) (.block 0 (.loop (q_ (q_ (r_ [v_ 8 4, v_ 9 0, s 10 (.len false (t 9)), s 11 (.bin .lss (t 8) (t 10))]) (.cond (t 11) .skip (.exit 0))) (q_ (.block 1 (r_ [v_ 14 3, v_ 15 4, v_ 16 0, v_ 17 4, s 18 (.iadr 1 (t 16) (t 17)), s 19 (l_ 18), s 20 (.iadr 1 (t 14) (t 15)), ⟨none, none, (.store 1 (t 20) (t 19))⟩])) (r_ [v_ 12 4, s 13 (.bin .add (t 12) (i_ 1)), v_ 4 13])))))) (q_ (r_ [v_ 21 3, v_ 2 21]) .ret))))
theorem toStringS.ir : IrAt Tryz.prog 96 toStringS.code [0, 2, 3, 4] [.tmp 2] Tryz.f96.ntmps := ir_ Tryz.func96
abbrev toStringS.Ret (args : List AV) (r : AV) (frs : Fr) : Prop := Abs.Ret true Tryz.prog 96 args r frs
open Abs
def part (z : List AV) (xs : List (List AV)) (i : Nat) : List AV := (xs.take i).flatten ++ (List.replicate (xs.length - i) z).flatten
theorem setAt_mid {α : Type} : ∀ (x a b c : List α), b.length = x.length → setAt (a ++ b ++ c) a.length x = a ++ x ++ c
 | [], a, b, c, h => by cases b with
  | nil => rfl
  | cons _ _ => simp at h
 | y :: x, a, b, c, h => by
  cases b with
  | nil => simp at h
  | cons b0 b =>
   have h1 : (a ++ b0 :: b ++ c).set a.length y = (a ++ [y]) ++ b ++ c := by simp
   have h2 : a.length + 1 = (a ++ [y]).length := by simp
   rw [setAt, h1, h2, setAt_mid x (a ++ [y]) b c (by simpa using h)]
   simp
theorem part_set {z : List AV} {xs : List (List AV)} {i sz : Nat} (hz : z.length = sz) (hx : ∀ x ∈ xs, x.length = sz) {x : List AV} (hi : xs[i]? = some x) : setAt (part z xs i) (i * sz) x = part z xs (i + 1) := by
 have hlt := getElem?_lt hi
 have h1 : (xs.take i).flatten.length = i * sz := by rw [length_flatten' sz _ (fun x h => hx x (List.mem_of_mem_take h)), List.length_take]; congr 1; omega
 obtain ⟨k, hk⟩ : ∃ k, xs.length - i = k + 1 := ⟨xs.length - i - 1, by omega⟩
 have hk2 : xs.length - (i + 1) = k := by omega
 have h2 : part z xs i = (xs.take i).flatten ++ z ++ (List.replicate k z).flatten := by
  rw [part, hk, List.replicate_succ, List.flatten_cons, List.append_assoc]
 have h3 : xs.take (i + 1) = xs.take i ++ [x] := by rw [List.take_add_one, hi]; rfl
 rw [h2, ← h1, setAt_mid _ _ _ _ (by rw [hz, hx x (List.mem_of_getElem? hi)]), part, hk2, h3]
 simp
theorem part_made {z : List Value} {xs : List (List AV)} {sz m : Nat} (hz : z.length = sz) (hp : 0 < sz) (hm : m = xs.length * sz) : madeK z m = part (z.map constAV) xs 0 := by
 subst hm
 have h1 : (List.replicate xs.length (z.map constAV)).flatten.length = xs.length * sz := by rw [length_flatten' sz]; · simp
                                                                                            ·intro x hx; rw [List.eq_of_mem_replicate hx]; simp [hz]
 apply List.ext_getElem?
 intro i
 by_cases hi : i < xs.length * sz
 ·have hq : i / sz < xs.length := (Nat.div_lt_iff_lt_mul hp).2 hi
  have hr : i % sz < sz := Nat.mod_lt _ hp
  have hf := flatten_get sz (List.replicate xs.length (z.map constAV)) (i / sz) (i % sz) (z.map constAV) (constAV (z.getD (i % sz) undef)) (fun x hx => by rw [List.eq_of_mem_replicate hx]; simp [hz]) (by simp [hq]) (by simp [hz, hr, List.getD])
  rw [show i / sz * sz + i % sz = i by rw [Nat.mul_comm]; exact Nat.div_add_mod _ _] at hf
  simp only [part, List.take_zero, List.flatten_nil, List.nil_append, Nat.sub_zero]
  rw [hf, madeK]
  simp [hi, hz]
 ·rw [List.getElem?_eq_none (by simp [madeK]; omega)]
  simp only [part, List.take_zero, List.flatten_nil, List.nil_append, Nat.sub_zero]
  rw [List.getElem?_eq_none (by rw [h1]; omega)]
theorem part_all (z : List AV) (xs : List (List AV)) : part z xs xs.length = xs.flatten := by simp [part]
theorem part_len {z : List AV} {xs : List (List AV)} {i sz : Nat} (hz : z.length = sz) (hx : ∀ x ∈ xs, x.length = sz) (hi : i ≤ xs.length) : (part z xs i).length = xs.length * sz := by
 rw [part, List.length_append, length_flatten' sz _ (fun x h => hx x (List.mem_of_mem_take h)), length_flatten' sz _ (fun x h => by rw [List.eq_of_mem_replicate h]; exact hz), List.length_take, List.length_replicate, ← Nat.add_mul]
 congr 1; omega
theorem strs_get {l : List Str} {i : Nat} (hi : i < l.length) : (strs l)[i]? = some [.str (l.getD i [])] := by simp [strs_eq, List.getD, hi]
theorem toStringS.ret (l : List Str) (hl : l.length ≤ 1048576) : toStringS.Ret [.list none (strs l)] (.list (some 0) (strs l)) [(9, 1, l.length)] := by
 refine toStringS.ir.of rfl ?_
 repeat' first
  | (conv => whnf
     first | refine Need.fin ?_)
 refine ALoop.mk Nat (fun i => ⟨[(0, .list none (strs l)), (3, .bsl 0 l.length), (4, .val (.int .i64 i))], [.cells (.row 9 1) (part [.str []] (strs l) i)], []⟩) (fun i => i ≤ l.length) (fun i => l.length - i) ⟨0, Nat.zero_le _, ?_⟩ (fun i hi => ?_)
 ·repeat' first
   | exact trivial | refine wl_ ?_ ?_ ?_ ?_ | refine And.intro ?_ ?_ | with_reducible rfl | exact ble_ | refine AV.int_congr ?_ | refine AV.list_congr ?_ | refine AV.bsl_congr ?_ ?_ | (apply rfl)
  ·simp
  ·simp only [List.nil_append, List.length_cons, List.length_nil, List.take_succ_cons, List.take_zero]
   rw [part_made (xs := strs l) (sz := 1) rfl (by decide) (by simp)]; rfl
 repeat' first
  | (conv => whnf
     first | refine Need.mk rfl ?_ | refine Need.fin ?_ | refine Need.mk ?_ ?_ | refine Ix.strsF rfl ?_ | refine Fork.dec (fun _ => ?_) (fun _ => ?_) | refine Round.mk ?_)
 ·rename_i h
  rw [length_strs] at h
  rw [part_len (sz := 1) rfl (strs_sz l) (by simp; exact hi), Int.toNat_natCast, length_strs]
  exact ⟨rfl, by omega⟩
 ·rename_i h
  rw [length_strs] at h
  refine ⟨i + 1, by omega, ?_, by omega⟩
  repeat' first
   | exact trivial | refine wl_ ?_ ?_ ?_ ?_ | refine And.intro ?_ ?_ | with_reducible rfl | exact ble_ | refine AV.int_congr ?_ | refine AV.list_congr ?_ | refine AV.bsl_congr ?_ ?_
  ·rw [wrap64 (by omega) (by omega)]; rfl
  ·simp only [Int.toNat_natCast]
   have := part_set (z := [.str []]) (sz := 1) rfl (strs_sz l) (strs_get (l := l) (i := i) (by omega))
   simp only [List.set_cons_zero, List.take_succ_cons, List.take_zero, List.length_cons, List.length_nil, this]
 ·rename_i h
  rw [length_strs] at h
  conv => whnf
  have : i = l.length := by omega
  subst this
  refine FreezeD.flat (Freeze.mk (strs l) _ 9 1 rfl (by have := part_all [.str []] (strs l); rwa [length_strs] at this) (by simp) (strs_sz l) (fun c hc => ?_) ?_)
  ·have e := part_all [.str []] (strs l)
   rw [length_strs] at e
   rw [e, List.mem_flatten] at hc
   obtain ⟨x, hx, hc⟩ := hc
   rw [strs_eq] at hx
   obtain ⟨s, _, rfl⟩ := List.mem_map.1 hx
   simp at hc; subst hc; rfl
  ·exact Final.mk rfl rfl
theorem own_strs (fr : Fr) : ∀ l : List Str, OwnA fr (l.map sq).flatten (strs l).flatten []
 | [] => .nil
 | s :: l => .s s (own_strs fr l)
theorem eqStringS.ret (l m : List Str) (hl : l.length ≤ 1099511627776) : eqStringS.Ret [.list none (strs l), .list none (strs m)] (.val (.bool (decide (l = m)))) [] := by
 refine eqStringS.ir.of rfl ?_
 repeat' first
  | (conv => whnf
     first | refine Need.mk rfl ?_ | refine Fork.bne (fun _ => ?_) (fun _ => ?_) | refine FinVal.keep ?_ | refine Final.mk ?_ rfl)
  | refine AV.bool_congr ?_
 ·rename_i h
  rw [length_strs, length_strs] at h
  have h3 : ¬ l = m := fun e => h (by rw [e])
  simp [h3]
 rename_i h
 rw [length_strs, length_strs] at h
 have h : l.length = m.length := by omega
 skip
 refine ALoop.mk Nat (fun i => ⟨[(0, .list none (strs l)), (1, .list none (strs m)), (5, .val (.int .i64 i))], [], []⟩) (fun i => i ≤ l.length ∧ l.take i = m.take i) (fun i => l.length - i) ⟨0, ⟨Nat.zero_le _, rfl⟩, ?_⟩ (fun i hi => ?_)
 ·repeat' first
   | exact trivial | refine wl_ ?_ ?_ ?_ ?_ | refine And.intro ?_ ?_ | with_reducible rfl | exact ble_ | refine AV.int_congr ?_ | refine AV.list_congr ?_ | (apply rfl)
 repeat' first
  | (conv => whnf
     first | refine Need.mk rfl ?_ | refine Ix.strsF rfl ?_ | refine Fork.dec (fun _ => ?_) (fun _ => ?_) | refine Fork.sne (fun _ => ?_) (fun _ => ?_) | refine Round.mk ?_ | refine FinVal.keep ?_ | refine Final.mk ?_ rfl)
  | refine AV.bool_congr ?_
 ·rename_i h1 h2
  have h3 : ¬ l = m := fun e => h2 (by rw [e])
  simp [h3]
 ·rename_i h1 h2
  rw [length_strs] at h1
  refine ⟨i + 1, ⟨by omega, ?_⟩, ?_, by omega⟩
  ·rw [take_succ' [] (by omega), take_succ' (l := m) [] (by omega), hi.2]
   rw [Int.toNat_natCast] at h2
   have h2' : l.getD i [] = m.getD i [] := h2
   rw [h2']
  ·repeat' first
    | exact trivial | refine wl_ ?_ ?_ ?_ ?_ | refine And.intro ?_ ?_ | with_reducible rfl | exact ble_ | refine AV.int_congr ?_ | refine AV.list_congr ?_ | (apply rfl)
   rw [wrap64 (by omega) (by omega)]; rfl
 ·rename_i h1
  rw [length_strs] at h1
  have h2 := hi.2
  rw [List.take_of_length_le (by omega), List.take_of_length_le (by omega)] at h2
  simp [h2]
def szL : List Str → Nat
 | [] => 0
 | s :: l => s.length + szL l
def szT (l : List Str) : Nat := l.length + szL l
theorem szL_take_succ {l : List Str} {i : Nat} (hi : i < l.length) : szL (l.take (i + 1)) = szL (l.take i) + (l.getD i []).length := by
 induction l generalizing i with
 | nil => simp at hi
 | cons s l ih =>
  cases i with
  | zero => simp [szL]
  | succ i => simp only [List.take_succ_cons, szL, ih (show i < l.length by simpa using hi)]; simp [Nat.add_assoc]
theorem szL_le_take (l : List Str) (i : Nat) : szL (l.take i) ≤ szL l := by
 induction l generalizing i with
 | nil => simp [szL]
 | cons s l ih => cases i with
  | zero => simp [szL]
  | succ i => simp only [List.take_succ_cons, szL]; have := ih i; omega
def left (a : Int) (n : Nat) : Int := if a - n < 0 then -1 else a - n
theorem left_eq {a : Int} {n : Nat} {x : Int} (h : (x = -1 ∧ a < n) ∨ (x = a - n ∧ ¬ a < n)) : x = left a n := by unfold left; split <;> omega
theorem szStringS.ret (l : List Str) (a : Int) (h0 : 0 ≤ a) (ha : a ≤ 1048576) (hl : l.length ≤ 9223372036854775807) (hs : ∀ s ∈ l, s.length ≤ 9223372036854775807) :
 szStringS.Ret [.list none (strs l), .val (.int .i64 a)] (.val (.int .i64 (left a (szT l)))) [] := by
 refine szStringS.ir.of rfl ?_
 have hw : IntKind.i64.wrap (a - ((strs l).length : Int)) = a - l.length := by rw [length_strs]; exact wrap64 (by omega) (by omega)
 repeat' first
  | (conv => whnf
     first | refine Need.mk rfl ?_ | refine Fork.dec (fun _ => ?_) (fun _ => ?_) | refine FinVal.keep ?_ | refine Final.mk ?_ rfl)
  | refine AV.int_congr ?_
 ·rename_i h
  rw [hw] at h
  rw [left, if_pos (by unfold szT; omega)]
 rename_i h
 rw [hw] at h
 skip
 refine ALoop.mk Nat (fun i => ⟨[(0, .list none (strs l)), (1, .val (.int .i64 (a - l.length - szL (l.take i)))), (5, .val (.int .i64 i))], [], []⟩) (fun i => i ≤ l.length ∧ (0 : Int) ≤ a - l.length - szL (l.take i)) (fun i => l.length - i) ⟨0, ⟨Nat.zero_le _, by simp [szL]; omega⟩, ?_⟩ (fun i hi => ?_)
 ·repeat' first
   | exact trivial | refine wl_ ?_ ?_ ?_ ?_ | refine And.intro ?_ ?_ | with_reducible rfl | exact ble_ | refine AV.int_congr ?_ | refine AV.list_congr ?_ | (apply rfl)
  rw [hw]; simp [szL]
 obtain ⟨hp1, hp2⟩ := hi
 have hg : ∀ i, (l.getD i []).length ≤ 9223372036854775807 := fun i => by
  rcases Nat.lt_or_ge i l.length with h | h
  ·simp only [List.getD, List.getElem?_eq_getElem h, Option.getD_some]; exact hs _ (List.getElem_mem h)
  ·simp [List.getD, List.getElem?_eq_none h]
 repeat' first
  | (conv => whnf
     first | refine Need.mk rfl ?_ | refine Ix.strsF rfl ?_ | refine Fork.dec (fun _ => ?_) (fun _ => ?_) | refine Round.mk ?_ | refine FinVal.keep ?_ | refine Final.mk ?_ rfl)
  | refine AV.int_congr ?_
 ·rename_i h1 h2
  rw [length_strs] at h1
  have h4 := hg i
  have h3 := szL_take_succ (l := l) (i := i) (by omega)
  have h5 := szL_le_take l (i + 1)
  change IntKind.i64.wrap (a - ↑l.length - ↑(szL (l.take i)) - ((l.getD i []).length : Int)) < 0 at h2
  rw [wrap64 (by omega) (by omega)] at h2
  rw [left, if_pos (by unfold szT; omega)]
 ·rename_i h1 h2
  rw [length_strs] at h1
  have h4 := hg i
  have h3 := szL_take_succ (l := l) (i := i) (by omega)
  change ¬ IntKind.i64.wrap (a - ↑l.length - ↑(szL (l.take i)) - ((l.getD i []).length : Int)) < 0 at h2
  rw [wrap64 (by omega) (by omega)] at h2
  refine ⟨i + 1, ⟨by omega, by omega⟩, ?_, by omega⟩
  repeat' first
   | exact trivial | refine wl_ ?_ ?_ ?_ ?_ | refine And.intro ?_ ?_ | with_reducible rfl | exact ble_ | refine AV.int_congr ?_ | refine AV.list_congr ?_ | (apply rfl)
  ·change IntKind.i64.wrap (a - ↑l.length - ↑(szL (l.take i)) - ((l.getD i []).length : Int)) = _
   rw [wrap64 (by omega) (by omega)]; omega
  ·rw [wrap64 (by omega) (by omega)]; rfl
 ·rename_i h1
  rw [length_strs] at h1
  rw [List.take_of_length_le (by omega)] at hp2 ⊢
  rw [left, if_neg (by unfold szT; omega)]; unfold szT; omega
open Abs
def digs : Nat → Nat → Str → Str
 | 0, _, a => a
 | n + 1, k, a => if k = 0 then a else digs n (k / 10) (UInt8.ofNat (48 + k % 10) :: a)
theorem digs_fuel : ∀ (n m k : Nat) (a : Str), k ≤ n → k ≤ m → digs n k a = digs m k a
 | 0, 0, _, _, _, _ => rfl
 | 0, m + 1, k, a, h, _ => by have : k = 0 := by omega
                              subst this; rfl
 | n + 1, 0, k, a, _, h => by have : k = 0 := by omega
                              subst this; rfl
 | n + 1, m + 1, k, a, h, h' => by
  simp only [digs]
  split
  ·rfl
  ·exact digs_fuel n m _ _ (by omega) (by omega)
theorem digs_step {k : Nat} (a : Str) (h : 0 < k) : digs k k a = digs (k / 10) (k / 10) (UInt8.ofNat (48 + k % 10) :: a) := by
 obtain ⟨n, rfl⟩ : ∃ n, k = n + 1 := ⟨k - 1, by omega⟩
 rw [digs, if_neg (by omega)]
 exact digs_fuel _ _ _ _ (by omega) (by omega)
@[irreducible] def markF (k : Nat) : Str := if k = 0 then [109, 48] else 109 :: digs k k []
theorem markText.ret (k : Nat) (hk : k ≤ 1099511627775) : markText.Ret [.val (.int .i64 k)] (.str (markF k)) [] := by
 refine markText.ir.ofS rfl rfl ?_
 repeat' first
  | (conv => whnf
     first | refine Need.mk rfl ?_ | refine Fork.dec (fun _ => ?_) (fun _ => ?_) | refine Final.mk ?_ rfl)
  | refine AV.str_congr ?_
 ·rename_i h
  have : k = 0 := by omega
  subst this; unfold markF; rfl
 rename_i h
 skip
 refine ALoop.mk (Nat × Str × Fr) (fun p => ⟨[(0, .val (.int .i64 p.1)), (3, .str p.2.1)], [], p.2.2⟩) (fun p => digs p.1 p.1 p.2.1 = digs k k [] ∧ p.2.1.length + p.1 ≤ k) (fun p => p.1) ⟨(k, [], []), ⟨rfl, by simp⟩, ?_⟩ (fun p hp => ?_)
 ·repeat' first
   | exact trivial | refine wl_ ?_ ?_ ?_ ?_ | refine And.intro ?_ ?_ | with_reducible rfl | exact ble_ | refine AV.int_congr ?_ | refine AV.str_congr ?_ | (apply rfl)
 obtain ⟨hp1, hp2⟩ := hp
 repeat' first
  | (conv => whnf
     first | refine Need.mk rfl ?_ | refine Need.fin ?_ | refine Need.mk ?_ ?_ | refine Fork.dec (fun _ => ?_) (fun _ => ?_) | refine Final.mk ?_ rfl)
  | refine AV.str_congr ?_
 ·refine ⟨[UInt8.ofNat (48 + p.1 % 10)], ?_, ?_⟩
  ·rename_i h1
   have e1 : ((p.1 : Int).tmod 10) = ((p.1 % 10 : Nat) : Int) := (Int.ofNat_tmod p.1 10).symm
   have e2 : IntKind.i64.wrap (48 + (p.1 : Int).tmod 10) = ((48 + p.1 % 10 : Nat) : Int) := by rw [e1, wrap64 (by omega) (by omega)]; omega
   have e3 : IntKind.u8.wrap (((48 + p.1 % 10 : Nat)) : Int) = ((48 + p.1 % 10 : Nat) : Int) := by
    have := Go.IntWalk.u8_in ((48 + p.1 % 10 : Nat) : Int) ⟨by omega, by omega⟩
    exact this
   rw [e2, e3]
   simp [byteCell]
   omega
  repeat' first
   | (conv => whnf
      first | refine Need.mk rfl ?_ | refine Need.fin ?_ | refine Need.mk ?_ ?_ | refine Round.mk ?_)
  ·rename_i h1
   simp; omega
  ·rename_i h1
   refine ⟨(p.1 / 10, UInt8.ofNat (48 + p.1 % 10) :: p.2.1, p.2.2 ++ [(5, 1, 1)]), ⟨by rw [← digs_step _ (by omega)]; exact hp1, by simp only [List.length_cons]; omega⟩, ?_, by show p.1 / 10 < p.1; omega⟩
   repeat' first
    | exact trivial | refine wl_ ?_ ?_ ?_ ?_ | refine And.intro ?_ ?_ | exact ble_ | refine AV.int_congr ?_ | refine AV.str_congr ?_ | (apply rfl)
   have e4 : ((p.1 : Int).tdiv 10) = ((p.1 / 10 : Nat) : Int) := (Int.ofNat_tdiv p.1 10).symm
   rw [e4, wrap64 (by omega) (by omega)]
 ·rename_i h1
  have : p.1 = 0 := by omega
  rw [this] at hp1
  show 1 + p.2.1.length ≤ 1099511627776
  omega
 ·rename_i h1
  have : p.1 = 0 := by omega
  rw [this] at hp1
  have e : p.2.1 = digs k k [] := hp1
  unfold markF; rw [if_neg (by omega), ← e]; rfl
def markL (n k : Nat) : List Str := (List.range n).map fun i => markF (k + i)
@[simp] theorem length_markL (n k : Nat) : (markL n k).length = n := by simp [markL]
theorem markL_get {n k i : Nat} (hi : i < n) : (markL n k)[i]? = some (markF (k + i)) := by simp [markL, hi]
theorem gvLL_sq : ∀ (l : List Str) (n : Nat), gvLL (l.map sq) n = l.map AV.str
 | [], _ => rfl
 | s :: l, n => by simp [gvLL, sq, gvL, gv, gvLL_sq l]
theorem gbLL_sq : ∀ (l : List Str) (n : Nat), gbLL (l.map sq) n = []
 | [], _ => rfl
 | s :: l, n => by simp [gbLL, sq, gbL, gb, gbLL_sq l]
theorem nbLL_sq : ∀ (l : List Str), nbLL (l.map sq) = 0
 | [] => rfl
 | s :: l => by simp [nbLL, sq, nbL, nb, nbLL_sq l]
def strT (l : List Str) : Tr := .l 9 1 (l.map sq)
theorem gb_strT (l : List Str) (n : Nat) : gb (strT l) n = [.cells (.row 9 1) (l.map AV.str)] := by rw [strT, gb, gvLL_sq, gbLL_sq]
theorem gv_strT (l : List Str) (n : Nat) : gv (strT l) n = .bsl n l.length := by rw [strT, gv, List.length_map]
theorem nb_strT (l : List Str) : nb (strT l) = 1 := by rw [strT, nb, nbLL_sq]
theorem mix_set {l m : List Str} {i : Nat} {x : Str} (hi : i < l.length) (hl : m.length = l.length) (hx : m[i]? = some x) :
 ((m.take i ++ l.drop i).map AV.str).set i (.str x) = (m.take (i + 1) ++ l.drop (i + 1)).map AV.str := by
 have h1 : l.drop i = l[i] :: l.drop (i + 1) := List.drop_eq_getElem_cons hi
 have h2 : m.take (i + 1) = m.take i ++ [x] := by rw [List.take_add_one, hx]; rfl
 have h3 : (m.take i).length = i := by simp; omega
 rw [h1, h2, List.map_append, List.set_append_right _ _ (by rw [List.length_map, h3]; exact Nat.le_refl _), List.length_map, h3, Nat.sub_self, List.map_cons, List.set_cons_zero, List.map_append, List.map_append, List.append_assoc]
 rfl
theorem markStringS.turn (l : List Str) (k : Nat) (hk : k + l.length ≤ 1099511627775) : markStringS.Turn (gb (strT l) 0) [gv (strT l) 0, .val (.int .i64 k)] (.val (.int .i64 ((k + l.length : Nat)))) (gb (strT (markL l.length k)) 0) := by
 refine markStringS.ofT rfl rfl (by rw [length_gb, nb_strT, nb_strT]) ?_
 rw [gb_strT, gb_strT, gv_strT]
 skip
 refine ALoop.mk Nat (fun i => ⟨[(0, .bsl 0 l.length), (1, .val (.int .i64 (k + i : Nat))), (5, .val (.int .i64 i))], [.cells (.row 9 1) (((markL l.length k).take i ++ l.drop i).map AV.str)], []⟩) (fun i => i ≤ l.length) (fun i => l.length - i) ⟨0, Nat.zero_le _, ?_⟩ (fun i hi => ?_)
 ·repeat' first
   | exact trivial | refine wl_ ?_ ?_ ?_ ?_ | refine And.intro ?_ ?_ | with_reducible rfl | exact ble_ | refine AV.int_congr ?_ | refine AV.bsl_congr ?_ ?_ | (apply rfl)
 repeat' first
  | (conv => whnf
     first | refine Need.mk rfl ?_ | refine Need.fin ?_ | refine Need.mk ?_ ?_ | refine Fork.dec (fun _ => ?_) (fun _ => ?_) | refine Round.mk ?_ | refine FinalT.mk ?_ ?_ | refine ACall.scalA _ _ (markText.ret _ ?_) rfl ?_)
  | refine AV.int_congr ?_
 ·omega
 ·rename_i h
  simp; omega
 ·rename_i h
  refine ⟨i + 1, by omega, ?_, by omega⟩
  repeat' first
   | exact trivial | refine wl_ ?_ ?_ ?_ ?_ | refine And.intro ?_ ?_ | with_reducible rfl | exact ble_ | refine AV.int_congr ?_ | refine AV.bsl_congr ?_ ?_
  ·rw [wrap64 (by omega) (by omega)]; omega
  ·rw [wrap64 (by omega) (by omega)]; rfl
  ·have := mix_set (l := l) (m := markL l.length k) (i := i) (by omega) (by simp) (markL_get (by omega))
   simp only [Int.toNat_natCast, Nat.mul_one, setAt, List.set_cons_zero, List.take_succ_cons, List.take_zero, List.length_cons, List.length_nil, this]
 ·rename_i h
  omega
 ·rename_i h
  have : i = l.length := by omega
  subst this
  simp
  rw [List.take_of_length_le (by simp)]
@[irreducible] def heldL (l : List Str) (k : Nat) : Int := if l = markL l.length k then ((k + l.length : Nat) : Int) else -1
theorem heldStringS.ret (l : List Str) (k : Nat) (hk : k + l.length ≤ 1099511627775) : heldStringS.Ret [.list none (strs l), .val (.int .i64 k)] (.val (.int .i64 (heldL l k))) [] := by
 refine heldStringS.ir.ofS rfl rfl ?_
 skip
 refine ALoop.mk Nat (fun i => ⟨[(0, .list none (strs l)), (1, .val (.int .i64 (k + i : Nat))), (5, .val (.int .i64 i))], [], []⟩) (fun i => i ≤ l.length ∧ l.take i = (markL l.length k).take i) (fun i => l.length - i) ⟨0, ⟨Nat.zero_le _, rfl⟩, ?_⟩ (fun i hi => ?_)
 ·repeat' first
   | exact trivial | refine wl_ ?_ ?_ ?_ ?_ | refine And.intro ?_ ?_ | with_reducible rfl | exact ble_ | refine AV.int_congr ?_ | refine AV.list_congr ?_ | (apply rfl)
 obtain ⟨hi, ht⟩ := hi
 repeat' first
  | (conv => whnf
     first | refine Need.mk rfl ?_ | refine Ix.strsF rfl ?_ | refine Fork.dec (fun _ => ?_) (fun _ => ?_) | refine Fork.sne (fun _ => ?_) (fun _ => ?_) | refine Round.mk ?_ | refine FinVal.keep ?_ | refine Final.mk ?_ rfl | refine AQCall.mkA _ _ (fun hg => markText.ret _ ?_) rfl ?_)
  | refine AV.int_congr ?_
 ·omega
 ·rename_i h1 h2
  rw [length_strs] at h1
  have h3 : ¬ l = markL l.length k := fun e => h2 (by
   have := markL_get (n := l.length) (k := k) (i := i) (by omega)
   rw [← e] at this
   show l.getD (i : Int).toNat [] = _
   rw [Int.toNat_natCast, List.getD, this]; rfl)
  unfold heldL; rw [if_neg h3]
 ·rename_i h1 h2
  rw [length_strs] at h1
  change l.getD (i : Int).toNat [] = markF (k + i) at h2
  rw [Int.toNat_natCast] at h2
  refine ⟨i + 1, ⟨by omega, ?_⟩, ?_, by omega⟩
  ·rw [take_succ' [] (by omega), ht, h2, List.take_add_one, markL_get (by omega)]; rfl
  ·repeat' first
    | exact trivial | refine wl_ ?_ ?_ ?_ ?_ | refine And.intro ?_ ?_ | with_reducible rfl | exact ble_ | refine AV.int_congr ?_ | refine AV.list_congr ?_ | (apply rfl)
   ·rw [wrap64 (by omega) (by omega)]; omega
   ·rw [wrap64 (by omega) (by omega)]; rfl
 ·rename_i h1
  rw [length_strs] at h1
  have e : l = markL l.length k := by
   have := ht
   rwa [List.take_of_length_le (by omega), List.take_of_length_le (by simp; omega)] at this
  have : i = l.length := by omega
  unfold heldL; rw [if_pos e, this]
open Abs
def tStrs : Ty (List Str) := Ty.plain 9 Ty.str (fun _ => rfl) (fun _ => rfl)
abbrev Fct := Str × List Str
def tFct : Ty Fct := Ty.pair Ty.str tStrs
abbrev facts (l : List Fct) : List (List AV) := rows tFct l
theorem szT_eq (l : List Str) : szT l = tStrs.size l := by
 show szT l = l.length + listSize Ty.str l
 unfold szT
 congr 1
 induction l with
 | nil => rfl
 | cons s l ih => simp only [szL, listSize, ih]; rfl
theorem Abs.ACall.mkStrs {C : Con} {lend : Bool} {f : Nat} {vs : List AV} {b : List ABox} {fr : Fr} {k : AV → List ABox → Fr → Prop} (ys : List AV) (l : List Str) (h : C.ret f ys (.list (some 0) (strs l)) [(9, 1, l.length)]) (hv : SeesL Sees0 vs ys)
 (hk : k (.list (some fr.length) (strs l)) b (fr ++ [(9, 1, l.length)])) : ACall C lend f vs b fr k :=
 ACall.mkV tStrs ys l (fun n => .list (some n) (strs l)) (fun _ => rfl) h hv hk
theorem Abs.ACall.mkFct {C : Con} {lend : Bool} {f : Nat} {vs : List AV} {b : List ABox} {fr : Fr} {k : AV → List ABox → Fr → Prop} (ys : List AV) (a : Fct) (h : C.ret f ys (.agg (tFct.tk a 0)) (tFct.fr a)) (hv : SeesL Sees0 vs ys)
 (hk : k (.agg (tFct.tk a fr.length)) b (fr ++ tFct.fr a)) : ACall C lend f vs b fr k := ACall.mkA tFct ys a h hv hk
theorem tFct_size (f : Fct) : tFct.size f = f.1.length + tStrs.size f.2 := rfl
theorem tStrs_size (l : List Str) : tStrs.size l = l.length + listSize Ty.str l := rfl
theorem toFact.ret (f : Fct) (h : tFct.size f ≤ 1048576) : toFact.Ret [.agg (oldL (tFct.q f))] (.agg (tFct.tk f 0)) (tFct.fr f) := by
 refine toFact.ir.of rfl ?_
 rw [tFct_size, tStrs_size] at h
 repeat' first
  | (conv => whnf
     first | refine Need.mk ⟨rfl, Nat.le_of_ble_eq_true rfl⟩ ?_ | refine nb_ ?_ | refine FinAgg.keep ?_ | refine Final.mk rfl rfl | refine ACall.mkStrs _ _ (toStringS.ret _ ?_) (by repeat' first | exact SeesL.nil | refine SeesL.cons ?_ ?_ | exact SeesB.of0 (Sees0.val _) | exact SeesB.of0 (Sees0.str _) | exact SeesB.of0 (Sees0.olds _ _) | exact SeesB.of0 (Sees0.old _) | exact SeesB.of0 (Sees0.oldagg _) | exact SeesB.of0 Sees0.nil | exact Sees0.val _ | exact Sees0.str _ | exact Sees0.olds _ _ | exact Sees0.old _ | exact Sees0.oldagg _ | exact Sees0.nil | exact SeesB.of0 (Sees0.any _) | assumption | exact sees_gv _ _ _ (by assumption) (by first | assumption | exact BoxIn.last _ _ | exact BoxIn.more (BoxIn.last _ _) _) | refine SeesB.agg ?_ | refine Sees0.agg ?_ | exact SeesB.of0 (Sees0.clo SeesL.nil SeesL.nil) | exact Sees0.clo SeesL.nil SeesL.nil | exact SeesB.of0 (Sees0.list rfl) | exact Sees0.list rfl) ?_)
 omega
theorem szFact.ret (f : Fct) (a : Int) (h0 : 0 ≤ a) (ha : a ≤ 1048576) (hb : tFct.bd f) :
 szFact.Ret [.agg (oldL (tFct.q f)), .val (.int .i64 a)] (.val (.int .i64 (left a (tFct.size f)))) [] := by
 refine szFact.ir.of rfl ?_
 obtain ⟨h1, h2, hs⟩ := hb
 have h1 : f.1.length ≤ 9223372036854775807 := h1
 have hw : IntKind.i64.wrap (a - (f.1.length : Int)) = a - f.1.length := wrap64 (by omega) (by omega)
 have hz := tFct_size f
 have hz2 := szT_eq f.2
 repeat' first
  | (conv => whnf
     first | refine Need.mk rfl ?_ | refine Fork.dec (fun _ => ?_) (fun _ => ?_) | refine FinVal.keep ?_ | refine Final.mk ?_ rfl | refine ACall.scalA _ _ (szStringS.ret _ _ ?_ ?_ ?_ ?_) rfl ?_)
  | refine AV.int_congr ?_
 all_goals rw [hw] at *
 all_goals first
  | assumption
  | omega
  | (unfold left at *; rw [hz, hz2] at *; split at * <;> (try split at *) <;> (try split) <;> omega)
open Abs
def tFcts : Ty (List Fct) := Ty.list 86 tFct
theorem tFcts_size (l : List Fct) : tFcts.size l = l.length + listSize tFct l := rfl
theorem facts_get {l : List Fct} {i : Nat} (hi : i < l.length) : l[i]? = some (l.getD i default) := by simp [List.getD, hi]
theorem tFcts_frs_succ {l : List Fct} {i : Nat} (hi : i < l.length) : frs tFct (l.take (i + 1)) = frs tFct (l.take i) ++ tFct.fr (l.getD i default) := by
 rw [take_succ' default hi, frs_append]; simp [frs]
theorem Abs.ACall.mkFcts {C : Con} {lend : Bool} {f : Nat} {vs : List AV} {b : List ABox} {fr : Fr} {k : AV → List ABox → Fr → Prop} (ys : List AV) (l : List Fct) (h : C.ret f ys (.list (some (0 + (frs tFct l).length)) (tks tFct l 0)) (tFcts.fr l)) (hv : SeesL Sees0 vs ys)
 (hk : k (.list (some (fr.length + (frs tFct l).length)) (tks tFct l fr.length)) b (fr ++ tFcts.fr l)) : ACall C lend f vs b fr k :=
 ACall.mkV tFcts ys l (fun n => .list (some (n + (frs tFct l).length)) (tks tFct l n)) (fun _ => rfl) h hv hk
theorem toFactS.ret (l : List Fct) (h : tFcts.size l ≤ 1048576) : toFactS.Ret [.list none (facts l)] (.list (some (0 + (frs tFct l).length)) (tks tFct l 0)) (tFcts.fr l) := by
 refine toFactS.ir.of rfl ?_
 rw [tFcts_size] at h
 repeat' first
  | (conv => whnf
     first | refine Need.fin ?_)
 refine ALoop.mk Nat (fun i => ⟨[(0, .list none (facts l)), (3, .bsl 0 l.length), (4, .val (.int .i64 i))], [.cells (.row 86 2) (part [.str [], .val (.slice none 0 0)] (tks tFct l 0) i)], frs tFct (l.take i)⟩) (fun i => i ≤ l.length) (fun i => l.length - i) ⟨0, Nat.zero_le _, ?_⟩ (fun i hi => ?_)
 ·repeat' first
   | exact trivial | refine wl_ ?_ ?_ ?_ ?_ | refine And.intro ?_ ?_ | with_reducible rfl | exact ble_ | refine AV.int_congr ?_ | refine AV.list_congr ?_ | refine AV.bsl_congr ?_ ?_ | (apply rfl)
  ·simp
  ·simp only [List.nil_append, List.length_cons, List.length_nil, List.take_succ_cons, List.take_zero]
   rw [part_made (xs := tks tFct l 0) (sz := 2) rfl (by decide) (by simp [length_tks])]; rfl
 repeat' first
  | (conv => whnf
     first | refine Need.mk rfl ?_ | refine nb_ ?_ | refine Need.fin ?_ | refine Need.mk ?_ ?_ | refine Ix.mapF (fun _ => rfl) ?_ | refine Fork.dec (fun _ => ?_) (fun _ => ?_) | refine Round.mk ?_ | refine ACall.mkFct _ _ (toFact.ret _ ?_) (by repeat' first | exact SeesL.nil | refine SeesL.cons ?_ ?_ | exact SeesB.of0 (Sees0.val _) | exact SeesB.of0 (Sees0.str _) | exact SeesB.of0 (Sees0.olds _ _) | exact SeesB.of0 (Sees0.old _) | exact SeesB.of0 (Sees0.oldagg _) | exact SeesB.of0 Sees0.nil | exact Sees0.val _ | exact Sees0.str _ | exact Sees0.olds _ _ | exact Sees0.old _ | exact Sees0.oldagg _ | exact Sees0.nil | exact SeesB.of0 (Sees0.any _) | assumption | exact sees_gv _ _ _ (by assumption) (by first | assumption | exact BoxIn.last _ _ | exact BoxIn.more (BoxIn.last _ _) _) | refine SeesB.agg ?_ | refine Sees0.agg ?_ | exact SeesB.of0 (Sees0.clo SeesL.nil SeesL.nil) | exact Sees0.clo SeesL.nil SeesL.nil | exact SeesB.of0 (Sees0.list rfl) | exact Sees0.list rfl) ?_)
 ·rename_i h1
  rw [length_rows] at h1
  have := listSize_mem tFct (List.mem_of_getElem? (facts_get (l := l) (i := i) (by omega)))
  rw [Int.toNat_natCast]; omega
 ·rename_i h1
  rw [length_rows] at h1
  rw [part_len (sz := 2) rfl (tks_sz tFct l 0) (by rw [length_tks]; exact hi), Int.toNat_natCast, length_tks]
  exact ⟨rfl, by omega⟩
 ·rename_i h1
  rw [length_rows] at h1
  refine ⟨i + 1, by omega, ?_, by omega⟩
  repeat' first
   | exact trivial | refine wl_ ?_ ?_ ?_ ?_ | refine And.intro ?_ ?_ | with_reducible rfl | exact ble_ | refine AV.int_congr ?_ | refine AV.list_congr ?_ | refine AV.bsl_congr ?_ ?_
  ·rw [wrap64 (by omega) (by omega)]; rfl
  ·have := part_set (z := [.str [], .val (.slice none 0 0)]) (sz := 2) rfl (tks_sz tFct l 0) (tks_get tFct 0 (facts_get (l := l) (i := i) (by omega)))
   rw [Nat.zero_add] at this
   simp only [List.set_cons_zero, List.take_succ_cons, List.take_zero, List.length_cons, List.length_nil, Int.toNat_natCast, this]
  ·rw [tFcts_frs_succ (by omega), Int.toNat_natCast]
 ·rename_i h1
  rw [length_rows] at h1
  conv => whnf
  have : i = l.length := by omega
  subst this
  have hall := part_all [.str [], .val (.slice none 0 0)] (tks tFct l 0)
  rw [length_tks] at hall
  refine FreezeD.flat (Freeze.mk (tks tFct l 0) _ 86 2 rfl hall (length_tks _ _ _) (tks_sz tFct l 0) (fun c hc => ?_) ?_)
  ·rw [hall] at hc; exact tks_nr tFct l 0 c hc
  ·refine Final.mk ?_ ?_
   ·rw [List.take_length, Nat.zero_add]
   ·rw [List.take_length]; rfl
theorem toFactS.own (l : List Fct) (h : tFcts.size l ≤ 1048576) : toFactS.Own [.list none (facts l)] (.l 86 2 (l.map tFct.q)) :=
 Ty.ownV tFcts (x := .l 86 2 (l.map tFct.q)) rfl rfl (toFactS.ret l h)
theorem szFactS.ret (l : List Fct) (a : Int) (h0 : 0 ≤ a) (ha : a ≤ 1048576) (hb : tFcts.bd l) :
 szFactS.Ret [.list none (facts l), .val (.int .i64 a)] (.val (.int .i64 (left a (tFcts.size l)))) [] := by
 refine szFactS.ir.of rfl ?_
 obtain ⟨hl, hb⟩ := hb
 have hw : IntKind.i64.wrap (a - ((facts l).length : Int)) = a - l.length := by rw [length_rows]; exact wrap64 (by omega) (by omega)
 have hz := tFcts_size l
 repeat' first
  | (conv => whnf
     first | refine Need.mk rfl ?_ | refine Fork.dec (fun _ => ?_) (fun _ => ?_) | refine FinVal.keep ?_ | refine Final.mk ?_ rfl)
  | refine AV.int_congr ?_
 ·rename_i h
  rw [hw] at h
  rw [left, if_pos (by omega)]
 rename_i h
 rw [hw] at h
 skip
 refine ALoop.mk Nat (fun i => ⟨[(0, .list none (facts l)), (1, .val (.int .i64 (a - l.length - listSize tFct (l.take i)))), (5, .val (.int .i64 i))], [], []⟩) (fun i => i ≤ l.length ∧ (0 : Int) ≤ a - l.length - listSize tFct (l.take i)) (fun i => l.length - i) ⟨0, ⟨Nat.zero_le _, by simp [listSize]; omega⟩, ?_⟩ (fun i hi => ?_)
 ·repeat' first
   | exact trivial | refine wl_ ?_ ?_ ?_ ?_ | refine And.intro ?_ ?_ | with_reducible rfl | exact ble_ | refine AV.int_congr ?_ | refine AV.list_congr ?_ | (apply rfl)
  rw [hw]; simp [listSize]
 obtain ⟨hp1, hp2⟩ := hi
 have hle := listSize_take_le tFct l (i + 1)
 have hbi : i < l.length → tFct.bd (l.getD i default) := fun h => hb _ (List.mem_of_getElem? (facts_get h))
 have hsz : i < l.length → listSize tFct (l.take (i + 1)) = listSize tFct (l.take i) + tFct.size (l.getD i default) := fun h => listSize_take_succ tFct (facts_get h)
 repeat' first
  | (conv => whnf
     first | refine Need.mk rfl ?_ | refine nb_ ?_ | refine Ix.mapF (fun _ => rfl) ?_ | refine Fork.dec (fun _ => ?_) (fun _ => ?_) | refine Round.mk ?_ | refine FinVal.keep ?_ | refine Final.mk ?_ rfl | refine ACall.scalA _ _ (szFact.ret _ _ ?_ ?_ ?_) rfl ?_)
  | refine AV.int_congr ?_
 ·exact hp2
 ·omega
 ·rename_i h1
  rw [length_rows] at h1
  rw [Int.toNat_natCast]; exact hbi (by omega)
 ·rename_i h1 h2
  rw [length_rows] at h1
  rw [Int.toNat_natCast] at h2
  have := hsz (by omega)
  unfold left at h2 ⊢
  split at h2
  ·rw [if_pos (by omega)]
  ·omega
 ·rename_i h1 h2
  rw [length_rows] at h1
  rw [Int.toNat_natCast] at h2
  have := hsz (by omega)
  have e : left (a - ↑l.length - ↑(listSize tFct (l.take i))) (tFct.size (l.getD i default)) = a - ↑l.length - ↑(listSize tFct (l.take (i + 1))) := by
   unfold left at h2 ⊢
   split at h2
   ·omega
   ·rw [if_neg ‹_›]; omega
  refine ⟨i + 1, ⟨by omega, ?_⟩, ?_, by omega⟩
  ·rw [← e]; omega
  ·repeat' first
    | exact trivial | refine wl_ ?_ ?_ ?_ ?_ | refine And.intro ?_ ?_ | with_reducible rfl | exact ble_ | refine AV.int_congr ?_ | refine AV.list_congr ?_ | (apply rfl)
   ·rw [Int.toNat_natCast]; exact e
   ·rw [wrap64 (by omega) (by omega)]; rfl
 ·rename_i h1
  rw [length_rows] at h1
  rw [List.take_of_length_le (by omega)] at hp2 ⊢
  rw [left, if_neg (by omega)]; omega
end Go.Proofs.YtoindmahilbalaaGreat
namespace Go.Proofs.YtoindmahilbalaaGreat
namespace Abs
mutual
def c1 : Tr → Nat
 | .v _ => 1
 | .s _ => 1
 | .l _ _ xs => cnLL xs
 | .a _ => 0
 | .p _ => 0
def cnC : List Tr → Nat
 | [] => 0
 | x :: xs => c1 x + cnC xs
def cnLL : List (List Tr) → Nat
 | [] => 0
 | x :: xs => cnC x + cnLL xs
end
mutual
def cn : Tr → Nat
 | .l _ _ xs => cnLL xs
 | .a fs => cnA fs
 | .p fs => cnA fs
 | .v _ => 0
 | .s _ => 0
def cnA : List Tr → Nat
 | [] => 0
 | x :: xs => cn x + cnA xs
end
mutual
def m1 : Tr → Nat → Tr
 | .v _, k => .v (.int .i64 k)
 | .s _, k => .s (markF k)
 | .l t sz xs, k => .l t sz (mkLL xs k)
 | .a fs, _ => .a fs
 | .p fs, _ => .p fs
def mkC : List Tr → Nat → List Tr
 | [], _ => []
 | x :: xs, k => m1 x k :: mkC xs (k + c1 x)
def mkLL : List (List Tr) → Nat → List (List Tr)
 | [], _ => []
 | x :: xs, k => mkC x k :: mkLL xs (k + cnC x)
end
mutual
def mk : Tr → Nat → Tr
 | .l t sz xs, k => .l t sz (mkLL xs k)
 | .a fs, k => .a (mkA fs k)
 | .p fs, k => .p (mkA fs k)
 | .v x, _ => .v x
 | .s x, _ => .s x
def mkA : List Tr → Nat → List Tr
 | [], _ => []
 | x :: xs, k => mk x k :: mkA xs (k + cn x)
end
theorem cnC_append : ∀ xs ys, cnC (xs ++ ys) = cnC xs + cnC ys
 | [], ys => by simp [cnC]
 | x :: xs, ys => by rw [List.cons_append, cnC, cnC_append xs, cnC, Nat.add_assoc]
theorem cnLL_flatten : ∀ xs, cnLL xs = cnC xs.flatten
 | [] => rfl
 | x :: xs => by rw [cnLL, List.flatten_cons, cnC_append, cnLL_flatten xs]
theorem mkC_append : ∀ xs ys k, mkC (xs ++ ys) k = mkC xs k ++ mkC ys (k + cnC xs)
 | [], ys, k => by simp [mkC, cnC]
 | x :: xs, ys, k => by rw [List.cons_append, mkC, mkC_append xs, mkC, cnC, List.cons_append, Nat.add_assoc]
theorem mkLL_flatten : ∀ xs k, (mkLL xs k).flatten = mkC xs.flatten k
 | [], _ => rfl
 | x :: xs, k => by rw [mkLL, List.flatten_cons, List.flatten_cons, mkC_append, mkLL_flatten xs]
theorem length_mkC : ∀ xs k, (mkC xs k).length = xs.length
 | [], _ => rfl
 | x :: xs, k => by rw [mkC, List.length_cons, length_mkC xs, List.length_cons]
theorem length_mkLL : ∀ xs k, (mkLL xs k).length = xs.length
 | [], _ => rfl
 | x :: xs, k => by rw [mkLL, List.length_cons, length_mkLL xs, List.length_cons]
mutual
theorem nb_m1 : ∀ x k, nb (m1 x k) = nb x
 | .v _, _ => rfl
 | .s _, _ => rfl
 | .l t sz xs, k => by rw [m1, nb, nb, nbLL_mk xs]
 | .a _, _ => rfl
 | .p _, _ => rfl
theorem nbL_mkC : ∀ xs k, nbL (mkC xs k) = nbL xs
 | [], _ => rfl
 | x :: xs, k => by rw [mkC, nbL, nbL, nbL_mkC xs, nb_m1 x]
theorem nbLL_mk : ∀ xs k, nbLL (mkLL xs k) = nbLL xs
 | [], _ => rfl
 | x :: xs, k => by rw [mkLL, nbLL, nbLL, nbL_mkC x, nbLL_mk xs]
end
mutual
theorem nb_mk : ∀ x k, nb (mk x k) = nb x
 | .l t sz xs, k => by rw [mk, nb, nb, nbLL_mk xs]
 | .a fs, k => by rw [mk, nb, nb, nbL_mkA fs]
 | .p fs, k => by rw [mk, nb, nb, nbL_mkA fs]
 | .v _, _ => rfl
 | .s _, _ => rfl
theorem nbL_mkA : ∀ xs k, nbL (mkA xs k) = nbL xs
 | [], _ => rfl
 | x :: xs, k => by rw [mkA, nbL, nbL, nb_mk x, nbL_mkA xs]
end
mutual
theorem gv_mk : ∀ x k n, gv (mk x k) n = gv x n
 | .l t sz xs, k, n => by rw [mk, gv, gv, length_mkLL]
 | .a fs, k, n => by rw [mk, gv, gv, gvL_mkA fs]
 | .p fs, k, n => by rw [mk, gv, gv, gvL_mkA fs]
 | .v _, _, _ => rfl
 | .s _, _, _ => rfl
theorem gvL_mkA : ∀ xs k n, gvL (mkA xs k) n = gvL xs n
 | [], _, _ => rfl
 | x :: xs, k, n => by rw [mkA, gvL, gvL, gv_mk x, gvL_mkA xs, nb_mk]
end
theorem mkLL_all {sz : Nat} : ∀ (xs : List (List Tr)) (k : Nat), ((mkLL xs k).all fun e => e.length == sz) = xs.all fun e => e.length == sz
 | [], _ => rfl
 | x :: xs, k => by rw [mkLL, List.all_cons, List.all_cons, mkLL_all xs, length_mkC]
mutual
theorem okT_m1 : ∀ x k, okT (m1 x k) = okT x
 | .v _, _ => rfl
 | .s _, _ => rfl
 | .l t sz xs, k => by rw [m1, okT, okT, mkLL_all, okTLL_mk xs]
 | .a _, _ => rfl
 | .p _, _ => rfl
theorem okTL_mkC : ∀ xs k, okTL (mkC xs k) = okTL xs
 | [], _ => rfl
 | x :: xs, k => by rw [mkC, okTL, okTL, okTL_mkC xs, okT_m1 x]
theorem okTLL_mk : ∀ xs k, okTLL (mkLL xs k) = okTLL xs
 | [], _ => rfl
 | x :: xs, k => by rw [mkLL, okTLL, okTLL, okTL_mkC x, okTLL_mk xs]
end
mutual
theorem okT_mk : ∀ x k, okT (mk x k) = okT x
 | .l t sz xs, k => by rw [mk, okT, okT, mkLL_all, okTLL_mk xs]
 | .a fs, k => by rw [mk, okT, okT, okTL_mkA fs]
 | .p fs, k => by rw [mk, okT, okT, okTL_mkA fs]
 | .v _, _ => rfl
 | .s _, _ => rfl
theorem okTL_mkA : ∀ xs k, okTL (mkA xs k) = okTL xs
 | [], _ => rfl
 | x :: xs, k => by rw [mkA, okTL, okTL, okT_mk x, okTL_mkA xs]
end
def st (cs : List Tr) (k p : Nat) : List Tr := mkC (cs.take p) k ++ cs.drop p
theorem st_zero (cs : List Tr) (k : Nat) : st cs k 0 = cs := rfl
theorem st_all (cs : List Tr) (k : Nat) {p : Nat} (h : p = cs.length) : st cs k p = mkC cs k := by subst h; simp [st]
theorem length_st (cs : List Tr) (k p : Nat) : (st cs k p).length = cs.length := by simp [st, length_mkC]; omega
theorem st_at {cs : List Tr} {p : Nat} {x : Tr} (k : Nat) (h : cs[p]? = some x) : st cs k p = mkC (cs.take p) k ++ x :: cs.drop (p + 1) := by
 obtain ⟨hp, rfl⟩ := List.getElem?_eq_some_iff.1 h
 rw [st, List.drop_eq_getElem_cons hp]
theorem st_succ {cs : List Tr} {p : Nat} {x : Tr} (k : Nat) (h : cs[p]? = some x) : st cs k (p + 1) = mkC (cs.take p) k ++ m1 x (k + cnC (cs.take p)) :: cs.drop (p + 1) := by
 rw [st, List.take_add_one, h, mkC_append, List.append_assoc]; rfl
theorem cn_succ {cs : List Tr} {p : Nat} {x : Tr} (h : cs[p]? = some x) : cnC (cs.take (p + 1)) = cnC (cs.take p) + c1 x := by
 rw [List.take_add_one, h, cnC_append]; rfl
theorem cn_take_le (cs : List Tr) (p : Nat) : cnC (cs.take p) ≤ cnC cs := by
 have := cnC_append (cs.take p) (cs.drop p)
 rw [List.take_append_drop] at this; omega
theorem length_take_lt {cs : List Tr} {p : Nat} {x : Tr} (h : cs[p]? = some x) (k : Nat) : (mkC (cs.take p) k).length = p := by
 have := getElem?_lt h
 rw [length_mkC, List.length_take]; omega
theorem gvL_st {cs : List Tr} {p : Nat} {x : Tr} (k n : Nat) (h : cs[p]? = some x) :
 gvL (st cs k (p + 1)) n = (gvL (st cs k p) n).set p (gv (m1 x (k + cnC (cs.take p))) (n + nbL (cs.take p))) := by
 have hl : (gvL (mkC (cs.take p) k) n).length = p := by rw [length_gvL, length_take_lt h]
 rw [st_succ k h, st_at k h, gvL_append, gvL_append, List.set_append_right _ _ (by omega), hl, Nat.sub_self]
 rw [gvL, gvL, List.set_cons_zero, nb_m1, nbL_mkC]
theorem gbL_st {cs : List Tr} {p : Nat} {x : Tr} (k n : Nat) (h : cs[p]? = some x) (hx : nb x = 0) : gbL (st cs k (p + 1)) n = gbL (st cs k p) n := by
 have e1 : ∀ m, gb x m = [] := fun m => List.eq_nil_of_length_eq_zero (by rw [length_gb, hx])
 have e2 : ∀ m j, gb (m1 x j) m = [] := fun m j => List.eq_nil_of_length_eq_zero (by rw [length_gb, nb_m1, hx])
 rw [st_succ k h, st_at k h, gbL_append, gbL_append, gbL, gbL, e1, e2, nb_m1]
theorem gvL_stL {cs : List Tr} {p t sz : Nat} {ys : List (List Tr)} (k n : Nat) (h : cs[p]? = some (.l t sz ys)) : gvL (st cs k (p + 1)) n = gvL (st cs k p) n := by
 rw [st_succ k h, st_at k h, gvL_append, gvL_append, gvL, gvL, nb_m1, m1, gv, gv, length_mkLL]
theorem ld_st {cs : List Tr} {p : Nat} {x : Tr} (k n : Nat) (h : cs[p]? = some x) : (gvL (st cs k p) n).drop p = gv x (n + nbL (cs.take p)) :: gvL (cs.drop (p + 1)) (n + nbL (cs.take p) + nb x) := by
 have hl : (gvL (mkC (cs.take p) k) n).length = p := by rw [length_gvL, length_take_lt h]
 rw [st_at k h, gvL_append, List.drop_append_of_le_length (by omega), List.drop_of_length_le (by omega), List.nil_append, gvL, nbL_mkC]
theorem bx_st {cs : List Tr} {p t sz : Nat} {ys : List (List Tr)} (k : Nat) (h : cs[p]? = some (.l t sz ys)) (c : ABox) :
 c :: gbL (st cs k p) 1 = (c :: gbL (mkC (cs.take p) k) 1) ++ gb (.l t sz ys) (c :: gbL (mkC (cs.take p) k) 1).length ++ gbL (cs.drop (p + 1)) (1 + nbL (cs.take p) + nb (.l t sz ys)) := by
 rw [List.length_cons, length_gbL, nbL_mkC, st_at k h, gbL_append, gbL, nbL_mkC, Nat.add_comm (nbL _) 1]
 simp only [List.cons_append, List.append_assoc]
theorem bx_st' {cs : List Tr} {p t sz : Nat} {ys : List (List Tr)} (k : Nat) (h : cs[p]? = some (.l t sz ys)) (c : ABox) :
 (c :: gbL (mkC (cs.take p) k) 1) ++ gb (mk (.l t sz ys) (k + cnC (cs.take p))) (c :: gbL (mkC (cs.take p) k) 1).length ++ gbL (cs.drop (p + 1)) (1 + nbL (cs.take p) + nb (.l t sz ys)) = c :: gbL (st cs k (p + 1)) 1 := by
 rw [List.length_cons, length_gbL, nbL_mkC, st_succ k h, gbL_append, gbL, nbL_mkC, nb_m1, Nat.add_comm (nbL _) 1, m1, mk]
 simp only [List.cons_append, List.append_assoc]
theorem pre_st {cs : List Tr} {p : Nat} (k : Nat) (c : ABox) : (c :: gbL (mkC (cs.take p) k) 1).length = 1 + nbL (cs.take p) := by
 rw [List.length_cons, length_gbL, nbL_mkC, Nat.add_comm]
theorem cell_at {α : Type} [Inhabited α] (q : α → List Tr) (sz : Nat) (hq : ∀ a, (q a).length = sz) {l : List α} {i j : Nat} {x : Tr} (hi : i < l.length) (hx : (q (l.getD i default))[j]? = some x) : (l.map q).flatten[i * sz + j]? = some x := by
 refine flatten_get sz (l.map q) i j (q (l.getD i default)) x (fun e he => ?_) ?_ hx
 ·obtain ⟨a, _, rfl⟩ := List.mem_map.1 he; exact hq a
 ·simp [List.getD, hi]
theorem flat_len {α : Type} (q : α → List Tr) (sz : Nat) (hq : ∀ a, (q a).length = sz) (l : List α) : (l.map q).flatten.length = l.length * sz := by
 rw [length_flatten' sz _ (fun e he => by obtain ⟨a, _, rfl⟩ := List.mem_map.1 he; exact hq a), List.length_map]
theorem gb_l (t sz : Nat) (xs : List (List Tr)) (n : Nat) : gb (.l t sz xs) n = .cells (.row t sz) (gvL xs.flatten (n + 1)) :: gbL xs.flatten (n + 1) := by rw [gb, gvLL_flatten, gbLL_flatten]
theorem gb_mk_l (t sz : Nat) (xs : List (List Tr)) (k n : Nat) : gb (mk (.l t sz xs) k) n = .cells (.row t sz) (gvL (mkC xs.flatten k) (n + 1)) :: gbL (mkC xs.flatten k) (n + 1) := by rw [mk, gb_l, mkLL_flatten]
theorem cn_l (t sz : Nat) (xs : List (List Tr)) : cn (.l t sz xs) = cnC xs.flatten := by rw [cn, cnLL_flatten]
theorem gb_l0 (t sz : Nat) (xs : List (List Tr)) : gb (.l t sz xs) 0 = .cells (.row t sz) (gvL xs.flatten 1) :: gbL xs.flatten 1 := gb_l t sz xs 0
theorem gb_mk_l0 (t sz : Nat) (xs : List (List Tr)) (k : Nat) : gb (mk (.l t sz xs) k) 0 = .cells (.row t sz) (gvL (mkC xs.flatten k) 1) :: gbL (mkC xs.flatten k) 1 := gb_mk_l t sz xs k 0
theorem nbL_st (cs : List Tr) (k p : Nat) : nbL (st cs k p) = nbL cs := by
 rw [st, nbL_append, nbL_mkC, ← nbL_append, List.take_append_drop]
theorem weak_st {nb : Nat} {e e' : Env} {c c' : ABox} {L L' : List ABox} {f f' : Fr} (he : agrees e e') (hc : c = c') (hL : L = L') (hf : f = f') (hn : nb ≤ (c' :: L').length) : Weak nb ⟨e, c :: L, f⟩ ⟨e', c' :: L', f'⟩ := by
 subst hc; subst hL; subst hf
 exact ⟨he, List.take_length, rfl, hn, Or.inl (Nat.le_refl _)⟩
theorem take_all {α : Type} {n : Nat} {l : List α} (h : l.length ≤ n) : l.take n = l := List.take_of_length_le h
theorem takeAV_one {n : Nat} {cs : List AV} {k : AV → Prop} (c : AV) (r : List AV) (h : cs = c :: r) (hk : k c) : takeAV false n cs k := by subst h; exact hk
theorem Sees0.cut {xs : List AV} {ys : List Tr} (h : xs = oldL ys) : Sees0 (.agg xs) (.agg (oldL ys)) := by subst h; exact Sees0.oldagg ys
theorem cons_congr {α : Type} {a b : α} {l m : List α} (h : a = b) (h' : l = m) : a :: l = b :: m := by rw [h, h']
theorem tok_congr {a b : Nat} {l m : List (List AV)} (h : a = b) (h' : l = m) : AV.list (some a) l = AV.list (some b) m := by rw [h, h']
theorem mkLL_get : ∀ (xs : List (List Tr)) (k i : Nat) (x : List Tr), xs[i]? = some x → (mkLL xs k)[i]? = some (mkC x (k + cnLL (xs.take i)))
 | [], _, _, _, h => by simp at h
 | y :: xs, k, 0, x, h => by simp at h; subst h; simp [mkLL, cnLL]
 | y :: xs, k, i + 1, x, h => by
  have := mkLL_get xs (k + cnC y) i x (by simpa using h)
  rw [mkLL, List.getElem?_cons_succ, this, List.take_succ_cons, cnLL, Nat.add_assoc]
theorem cnLL_succ {xs : List (List Tr)} {i : Nat} {x : List Tr} (h : xs[i]? = some x) : cnLL (xs.take (i + 1)) = cnLL (xs.take i) + cnC x := by
 have aux : ∀ a b, cnLL (a ++ b) = cnLL a + cnLL b := fun a b => by rw [cnLL_flatten, cnLL_flatten, cnLL_flatten, List.flatten_append, cnC_append]
 rw [List.take_add_one, h, aux, Option.toList_some, cnLL, cnLL, Nat.add_zero]
theorem cnLL_take_le (xs : List (List Tr)) (i : Nat) : cnLL (xs.take i) ≤ cnLL xs := by
 have aux : ∀ a b, cnLL (a ++ b) = cnLL a + cnLL b := fun a b => by rw [cnLL_flatten, cnLL_flatten, cnLL_flatten, List.flatten_append, cnC_append]
 have := aux (xs.take i) (xs.drop i)
 rw [List.take_append_drop] at this; omega
def CnB {α : Type} (T : Ty α) (w : Nat) : Prop := ∀ a, cnC (T.q a) ≤ w * (1 + T.size a)
theorem CnB.str : CnB Ty.str 1 := fun a => by show 1 + 0 ≤ 1 * (1 + _); omega
theorem CnB.int : CnB Ty.int 1 := fun a => by show 1 + 0 ≤ 1 * (1 + _); omega
theorem CnB.bool : CnB Ty.bool 1 := fun a => by show 1 + 0 ≤ 1 * (1 + _); omega
theorem CnB.pair {α β : Type} {T : Ty α} {U : Ty β} {w v : Nat} (h : CnB T w) (g : CnB U v) : CnB (Ty.pair T U) (w + v) := fun a => by
 show cnC (T.q a.1 ++ U.q a.2) ≤ (w + v) * (1 + (T.size a.1 + U.size a.2))
 rw [cnC_append, Nat.add_mul]
 exact Nat.add_le_add (Nat.le_trans (h a.1) (Nat.mul_le_mul_left _ (by omega))) (Nat.le_trans (g a.2) (Nat.mul_le_mul_left _ (by omega)))
theorem CnB.rows {α : Type} {T : Ty α} {w : Nat} (h : CnB T w) : ∀ l : List α, cnLL (l.map T.q) ≤ w * (l.length + listSize T l)
 | [] => Nat.zero_le _
 | a :: l => by
  have h1 := h.rows l
  have h2 := h a
  rw [List.map_cons, cnLL, List.length_cons, listSize]
  refine Nat.le_trans (Nat.add_le_add h2 h1) ?_
  rw [← Nat.mul_add]
  exact Nat.mul_le_mul_left _ (by omega)
theorem CnB.cellsL {α : Type} {T : Ty α} {w : Nat} (h : CnB T w) (t sz : Nat) (l : List α) : cnC [.l t sz (l.map T.q)] ≤ w * (1 + (l.length + listSize T l)) := by
 show cnLL (l.map T.q) + 0 ≤ _
 exact Nat.le_trans (h.rows l) (Nat.mul_le_mul_left _ (by omega))
theorem CnB.list {α : Type} {T : Ty α} {w : Nat} (h : CnB T w) (t : Nat) : CnB (Ty.list t T) w := fun l => h.cellsL t T.sz l
theorem CnB.plain {α : Type} {T : Ty α} {w : Nat} (h : CnB T w) (t : Nat) (h1 h2) : CnB (Ty.plain t T h1 h2) w := fun l => h.cellsL t T.sz l
theorem CnB.l {α : Type} {T : Ty α} {w : Nat} (h : CnB T w) (t sz : Nat) (l : List α) : cn (.l t sz (l.map T.q)) ≤ w * (l.length + listSize T l) := h.rows l
end Abs
open Abs
theorem Abs.ACall.mk_StringS {C : Con} {lend : Bool} {f : Nat} {vs : List AV} {b : List ABox} {fr : Fr} {k : AV → List ABox → Fr → Prop} (ys : List AV) (l : List Str) (h : C.ret f ys (.list (some 0) (strs l)) [(9, 1, l.length)]) (hv : SeesL Sees0 vs ys)
 (hk : k (.list (some fr.length) (strs l)) b (fr ++ [(9, 1, l.length)])) : ACall C lend f vs b fr k := ACall.mkStrs ys l h hv hk
theorem eqStringS.big (l m : List Str) (h : tStrs.size l ≤ 1099511627775) : eqStringS.Ret [.list none (strs l), .list none (strs m)] (.val (.bool (decide (l = m)))) [] := eqStringS.ret l m (by rw [tStrs_size] at h; omega)
theorem mkLL_sq : ∀ (l : List Str) (k : Nat), mkLL (l.map Ty.str.q) k = (markL l.length k).map sq
 | [], _ => rfl
 | s :: l, k => by
  have e : markL (l.length + 1) k = markF k :: markL l.length (k + 1) := by
   unfold markL
   rw [List.range_succ_eq_map, List.map_cons, List.map_map, Nat.add_zero]
   congr 1
   exact List.map_congr_left fun i _ => by show markF (k + (i + 1)) = markF (k + 1 + i); rw [Nat.add_assoc, Nat.add_comm 1 i]
  rw [List.map_cons, mkLL, List.length_cons, e, List.map_cons]
  exact congrArg _ (mkLL_sq l (k + 1))
theorem cnLL_sq : ∀ (l : List Str), cnLL (l.map Ty.str.q) = l.length
 | [] => rfl
 | s :: l => by rw [List.map_cons, cnLL, cnLL_sq l, List.length_cons]; show 1 + 0 + _ = _; omega
theorem markStringS.tn (l : List Str) (k : Nat) (_hs : tStrs.size l ≤ 1099511627775) (hk : k + cn (.l 9 1 (l.map Ty.str.q)) ≤ 1099511627775) :
 markStringS.Turn (gb (.l 9 1 (l.map Ty.str.q)) 0) [gv (.l 9 1 (l.map Ty.str.q)) 0, .val (.int .i64 k)] (.val (.int .i64 ((k + cn (.l 9 1 (l.map Ty.str.q)) : Nat)))) (gb (mk (.l 9 1 (l.map Ty.str.q)) k) 0) := by
 rw [mk, mkLL_sq]
 rw [cn, cnLL_sq] at hk ⊢
 exact markStringS.turn l k hk
theorem heldStringS.hd (l : List Str) (k : Nat) (_hs : tStrs.size l ≤ 1099511627775) (hk : k + cn (.l 9 1 (l.map Ty.str.q)) ≤ 1099511627775) :
 heldStringS.Ret [old (mk (.l 9 1 (l.map Ty.str.q)) k), .val (.int .i64 k)] (.val (.int .i64 ((k + cn (.l 9 1 (l.map Ty.str.q)) : Nat)))) [] := by
 rw [mk, mkLL_sq]
 rw [cn, cnLL_sq] at hk ⊢
 have h := heldStringS.ret (markL l.length k) k (by rw [length_markL]; exact hk)
 have e : heldL (markL l.length k) k = ((k + l.length : Nat) : Int) := by unfold heldL; rw [length_markL, if_pos rfl]
 rw [e] at h
 exact h
end Go.Proofs.YtoindmahilbalaaGreat
namespace Go.Proofs.YtoindmahilbalaaGreat
namespace Abs
theorem BoxIn.here {A bs : List ABox} {n : Nat} (h : n = A.length) : BoxIn (A ++ bs) n bs := by subst h; exact BoxIn.last _ _
def TAt (b : List ABox) (n : Nat) (X Y : Tr) (b' : List ABox) : Prop := ∃ pre post, pre.length = n ∧ b = pre ++ gb X n ++ post ∧ pre ++ gb Y n ++ post = b'
theorem TAt.here {A : List ABox} {n : Nat} {X Y : Tr} (h : n = A.length) : TAt (A ++ gb X n) n X Y (A ++ gb Y n) := ⟨A, [], h.symm, by simp, by simp⟩
theorem TAt.more {A D A' : List ABox} {n : Nat} {X Y : Tr} (h : TAt A n X Y A') : TAt (A ++ D) n X Y (A' ++ D) := by
 obtain ⟨pre, post, h1, rfl, rfl⟩ := h
 exact ⟨pre, post ++ D, h1, by simp, by simp⟩
theorem ACall.turnT {C : Con} {f : Nat} {vs : List AV} {b : List ABox} {fr : Fr} {k : AV → List ABox → Fr → Prop} (n : Nat) (b' : List ABox) (ys : List AV) (x x' : Tr) (r : AV) (h : C.turn f (gb x 0) ys r (gb x' 0)) (hr : isScalR r = true)
 (hn : nb x' = nb x) (hv : SeesL (SeesM x n) vs ys) (ht : TAt b n x x' b') (hk : k r b' fr) : ACall C true f vs b fr k := by
 obtain ⟨pre, post, rfl, h1, h2⟩ := ht
 exact ACall.turn' b' ys x x' r pre post h hr h1 hn hv h2 hk
theorem ACall.unbN {C : Con} {lend : Bool} {f : Nat} {vs : List AV} {b : List ABox} {fr : Fr} {k : AV → List ABox → Fr → Prop} (n : Nat) (ys : List AV) (x : Tr) (h : C.own f ys x) (hv : SeesL (SeesB b) vs ys) (hn : b.length = n)
 (hk : k (gv x n) (b ++ gb x n) fr) : ACall C lend f vs b fr k := by
 subst hn; exact ACall.unb ys x h hv hk
theorem ACall.unbN' {C : Con} {lend : Bool} {f : Nat} {vs : List AV} {b : List ABox} {fr : Fr} {k : AV → List ABox → Fr → Prop} (n : Nat) (b' : List ABox) (ys : List AV) (x : Tr) (h : C.own f ys x) (hv : SeesL (SeesB b) vs ys) (hn : b.length = n)
 (hb : b ++ gb x n = b') (hk : k (gv x n) b' fr) : ACall C lend f vs b fr k := by
 subst hn; subst hb; exact ACall.unb ys x h hv hk
theorem sees_mk (x : Tr) (k : Nat) (b : List ABox) (n : Nat) (hok : okT x = true) (h : BoxIn b n (gb (mk x k) n)) : SeesB b (gv x n) (old (mk x k)) := by
 rw [← gv_mk x k n]
 exact sees_gv (mk x k) b n (by rw [okT_mk]; exact hok) h
end Abs
open Abs
def lawExactAllMatches.code : ACode := (q_ (r_ [s 4 mf_]) (q_ (r_ [s 5 (.mv (i_ 1048576))]) (q_ (r_ [v_ 14 0, v_ 15 5, s 16 (.call 27 [t 14, t 15]), v_ 5 16]) (q_ (q_ (r_ [v_ 17 5, s 18 (.bin .lss (t 17) (i_ 0))]) (.cond (t 18) (q_ (r_ [s 4 mt_]) .ret) .skip)) (q_ (r_ [v_ 19 1, v_ 20 5, s 21 (.call 10 [t 19, t 20]), v_ 5 21]) (q_ (q_ (r_ [v_ 22 5, s 23 (.bin .lss (t 22) (i_ 0))]) (.cond (t 23) (q_ (r_ [s 4 mt_]) .ret) .skip)) (q_ (r_ [v_ 24 0, s 25 (.call 29 [t 24]), v_ 26 1, s 27 (.call 13 [t 26]), s 28 (.call 28 [t 25, t 27]), v_ 6 28]) (q_ (r_ [v_ 29 0, s 30 (.call 29 [t 29]), v_ 7 30]) (q_ (r_ [v_ 31 1, s 32 (.call 13 [t 31]), v_ 8 32]) (q_ (r_ [v_ 33 7, v_ 34 8, s 35 (.call 30 [t 33, t 34]), v_ 9 35]) (q_ (q_ (r_ [v_ 36 9, v_ 37 6, s 38 (.call 24 [t 36, t 37]), s 39 (.not (t 38))]) (.cond (t 39) (q_ (r_ [s 4 mf_]) .ret) .skip)) (q_ (q_ (r_ [v_ 40 7, v_ 41 0, s 42 (.call 29 [t 41]), s 43 (.call 31 [t 40, t 42]), s 44 (.not (t 43))]) (.cond (t 44) (q_ (r_ [s 4 mf_]) .ret) .skip)) (q_ (q_ (r_ [v_ 45 8, v_ 46 1, s 47 (.call 13 [t 46]), s 48 (.call 17 [t 45, t 47]), s 49 (.not (t 48))]) (.cond (t 49) (q_ (r_ [s 4 mf_]) .ret) .skip)) (q_ (r_ [s 10 (.mv (i_ 1))]) (q_ (r_ [v_ 50 7, v_ 51 10, s 52 (.call 32 [t 50, t 51]), v_ 10 52]) (q_ (r_ [v_ 53 8, v_ 54 10, s 55 (.call 19 [t 53, t 54]), v_ 10 55]) (q_ (q_ (r_ [v_ 56 10, s 57 (.bin .lss (t 56) (i_ 0)), v_ 58 57, g 58 false 59 (.mv (t 9)), g 58 false 60 (.mv (t 6)), g 58 false 61 (.call 24 [t 59, t 60]), g 58 false 62 (.not (t 61)), s 63 (.or (t 58) (t 62))]) (.cond (t 63) (q_ (r_ [s 4 mf_]) .ret) .skip)) (q_ (r_ [s 11 (.mv (i_ 1))]) (q_ (r_ [v_ 64 9, v_ 65 11, s 66 (.call 25 [t 64, t 65]), v_ 11 66]) (q_ (r_ [s 12 (.mv (i_ 1))]) (q_ (r_ [v_ 67 9, v_ 68 12, s 69 (.call 26 [t 67, t 68]), v_ 12 69]) (q_ (q_ (r_ [v_ 70 12, s 71 (.bin .lss (t 70) (i_ 0))]) (.cond (t 71) (q_ (r_ [s 4 mf_]) .ret) .skip)) (q_ (q_ (r_ [v_ 72 12, v_ 73 11, s 74 (.bin .neq (t 72) (t 73))]) (.cond (t 74) (q_ (r_ [s 4 mf_]) .ret) .skip)) (q_ (r_ [v_ 75 0, s 76 (.call 29 [t 75]), v_ 77 1, s 78 (.call 13 [t 77]), s 79 (.call 30 [t 76, t 78]), v_ 13 79]) (q_ (q_ (r_ [v_ 80 13, v_ 81 6, s 82 (.call 24 [t 80, t 81]), s 83 (.not (t 82))]) (.cond (t 83) (q_ (r_ [s 4 mf_]) .ret) .skip)) (q_ (r_ [s 12 (.mv (i_ 1))]) (q_ (r_ [v_ 84 9, v_ 85 12, s 86 (.call 26 [t 84, t 85]), v_ 12 86]) (q_ (q_ (r_ [v_ 87 12, s 88 (.bin .lss (t 87) (i_ 0))]) (.cond (t 88) (q_ (r_ [s 4 mf_]) .ret) .skip)) (q_ (q_ (r_ [v_ 89 12, v_ 90 11, s 91 (.bin .neq (t 89) (t 90))]) (.cond (t 91) (q_ (r_ [s 4 mf_]) .ret) .skip)) (q_ (r_ [s 4 mt_]) .ret))))))))))))))))))))))))))))))
theorem lawExactAllMatches.ir : IrAt Tryz.prog 5 lawExactAllMatches.code [0, 1, 4, 5, 6, 7, 8, 9, 10, 11, 12, 13] [.tmp 4] Tryz.f5.ntmps := ir_ Tryz.func5
abbrev lawExactAllMatches.RetN (args : List AV) (r : AV) (frs : Fr) : Prop := Abs.Ret false Tryz.prog 5 args r frs
open Abs
abbrev VPattern := Str × List Str
instance : DecidableEq VPattern := instDecidableEqProd
def tPattern : Ty VPattern := Ty.pair Ty.str tStrs
theorem tPattern_size (a : VPattern) : tPattern.size a = a.1.length + tStrs.size a.2 := rfl
theorem tPattern_cn : CnB tPattern 2 := CnB.pair CnB.str (CnB.plain CnB.str _ _ _)
theorem Abs.ACall.mk_Pattern {C : Con} {lend : Bool} {f : Nat} {vs : List AV} {b : List ABox} {fr : Fr} {k : AV → List ABox → Fr → Prop} (ys : List AV) (a : VPattern) (h : C.ret f ys (.agg (tPattern.tk a 0)) (tPattern.fr a)) (hv : SeesL Sees0 vs ys)
 (hk : k (.agg (tPattern.tk a fr.length)) b (fr ++ tPattern.fr a)) : ACall C lend f vs b fr k := ACall.mkA tPattern ys a h hv hk
theorem toPattern.ret (a : VPattern) (h : tPattern.size a ≤ 1048576) : toPattern.Ret [.agg (oldL (tPattern.q a))] (.agg (tPattern.tk a 0)) (tPattern.fr a) := by
 refine toPattern.ir.of rfl ?_
 rw [tPattern_size] at h
 have hf1 := tStrs_size a.2
 repeat' first
  | (conv => whnf
     first | refine Need.mk ⟨rfl, Nat.le_of_ble_eq_true rfl⟩ ?_ | refine nb_ ?_ | refine FinAgg.keep ?_ | refine Final.mk rfl rfl | refine ACall.mk_StringS _ _ (toStringS.ret _ ?_) (by repeat' first | exact SeesL.nil | refine SeesL.cons ?_ ?_ | exact SeesB.of0 (Sees0.val _) | exact SeesB.of0 (Sees0.str _) | exact SeesB.of0 (Sees0.olds _ _) | exact SeesB.of0 (Sees0.old _) | exact SeesB.of0 (Sees0.oldagg _) | exact SeesB.of0 Sees0.nil | exact Sees0.val _ | exact Sees0.str _ | exact Sees0.olds _ _ | exact Sees0.old _ | exact Sees0.oldagg _ | exact Sees0.nil | exact SeesB.of0 (Sees0.any _) | assumption | exact sees_gv _ _ _ (by assumption) (by first | assumption | exact BoxIn.last _ _ | exact BoxIn.more (BoxIn.last _ _) _) | refine SeesB.agg ?_ | refine Sees0.agg ?_ | exact SeesB.of0 (Sees0.clo SeesL.nil SeesL.nil) | exact Sees0.clo SeesL.nil SeesL.nil | exact SeesB.of0 (Sees0.list rfl) | exact Sees0.list rfl) ?_)
 all_goals first
  | omega
  | (refine congrArg AV.agg ?_
     repeat' first
      | refine cons_congr ?_ ?_
      | refine tok_congr ?_ ?_
      | refine congrArg (tks _ _) ?_
      | rfl
     all_goals (simp [Ty.pair, Ty.str, Ty.int, Ty.bool, Nat.add_assoc, Ty.plain, tStrs]; done))
  | (simp [tPattern, Ty.pair, Ty.str, Ty.int, Ty.bool, List.append_assoc, Nat.add_assoc, Ty.plain, tStrs]; done)
theorem szPattern.ret (f : VPattern) (a : Int) (h0 : 0 ≤ a) (ha : a ≤ 1048576) (hb : tPattern.bd f) :
 szPattern.Ret [.agg (oldL (tPattern.q f)), .val (.int .i64 a)] (.val (.int .i64 (left a (tPattern.size f)))) [] := by
 refine szPattern.ir.of rfl ?_
 have hz := tPattern_size f
 obtain ⟨hb0, hb1⟩ := hb
 have hb0 : f.1.length ≤ 9223372036854775807 := hb0
 obtain ⟨hbl1, hbe1⟩ := hb1
 have hy1 := szT_eq f.2
 by_cases c1 : a < (f.1.length : Int)
 ·have e0 : IntKind.i64.wrap (a - (f.1.length : Int)) = a - (f.1.length : Int) := by rw [wrap64 (by omega) (by omega)]
  repeat' first
   | (conv => whnf
      first | refine Need.mk rfl ?_ | refine Fork.decYes (by omega) ?_ | refine FinVal.keep ?_ | refine Final.mk ?_ rfl)
   | refine AV.int_congr ?_
  all_goals first
   | assumption
   | omega
   | exact left_eq (by omega)
 by_cases c2 : a < (f.1.length : Int) + (szT f.2 : Int)
 ·have e0 : IntKind.i64.wrap (a - (f.1.length : Int)) = a - (f.1.length : Int) := by rw [wrap64 (by omega) (by omega)]
  have e1 : left (IntKind.i64.wrap (a - (f.1.length : Int))) (szT f.2) = -1 := by rw [e0, left, if_pos (by omega)]
  repeat' first
   | (conv => whnf
      first | refine Need.mk rfl ?_ | refine Fork.decYes (by omega) ?_ | refine Fork.decNo (by omega) ?_ | refine FinVal.keep ?_ | refine Final.mk ?_ rfl | refine ACall.scalA _ _ (szStringS.ret _ _ ?_ ?_ ?_ ?_) rfl ?_)
   | refine AV.int_congr ?_
  all_goals first
   | assumption
   | omega
   | exact left_eq (by omega)
 have e0 : IntKind.i64.wrap (a - (f.1.length : Int)) = a - (f.1.length : Int) := by rw [wrap64 (by omega) (by omega)]
 have e1 : left (IntKind.i64.wrap (a - (f.1.length : Int))) (szT f.2) = a - (f.1.length : Int) - (szT f.2 : Int) := by rw [e0, left, if_neg (by omega)]
 repeat' first
  | (conv => whnf
     first | refine Need.mk rfl ?_ | refine Fork.decNo (by omega) ?_ | refine FinVal.keep ?_ | refine Final.mk ?_ rfl | refine ACall.scalA _ _ (szStringS.ret _ _ ?_ ?_ ?_ ?_) rfl ?_)
  | refine AV.int_congr ?_
 all_goals first
  | assumption
  | omega
  | exact left_eq (by omega)
theorem eqPattern.big (f g : VPattern) (h : tPattern.size f ≤ 1099511627775) : eqPattern.Ret [.agg (oldL (tPattern.q f)), .agg (oldL (tPattern.q g))] (.val (.bool (decide (f = g)))) [] := by
 refine eqPattern.ir.of rfl ?_
 have hz := tPattern_size f
 repeat' first
  | (conv => whnf
     first | refine Fork.sne (fun _ => ?_) (fun _ => ?_) | refine Fork.neg (fun _ => ?_) (fun _ => ?_) | refine FinVal.keep ?_ | refine Final.mk ?_ rfl | refine ACall.scalA _ _ (eqStringS.big _ _ ?_) rfl ?_)
  | refine AV.bool_congr ?_
 all_goals first
  | omega
  | (simp only [tStrs_size, tInts_size] at *; omega)
  | (obtain ⟨x0, x1⟩ := f; obtain ⟨y0, y1⟩ := g; simp_all)
open Abs
abbrev VCond := Int × VPattern × Str × Str
instance : DecidableEq VCond := instDecidableEqProd
def tCond : Ty VCond := Ty.pair Ty.int (Ty.pair tPattern (Ty.pair Ty.str Ty.str))
theorem tCond_size (a : VCond) : tCond.size a = 0 + (tPattern.size a.2.1 + (a.2.2.1.length + a.2.2.2.length)) := rfl
theorem tCond_cn : CnB tCond 5 := CnB.pair CnB.int (CnB.pair tPattern_cn (CnB.pair CnB.str CnB.str))
def tConds : Ty (List VCond) := Ty.list 116 tCond
theorem tConds_sz (l : List VCond) : tConds.size l = l.length + listSize tCond l := rfl
theorem tCond_get {l : List VCond} {i : Nat} (hi : i < l.length) : l[i]? = some (l.getD i default) := by simp [List.getD, hi]
theorem tCond_le {l : List VCond} {i : Nat} (hi : i < l.length) : tCond.size (l.getD i default) ≤ listSize tCond l := listSize_mem tCond (List.mem_of_getElem? (tCond_get hi))
theorem Abs.ACall.mk_Cond {C : Con} {lend : Bool} {f : Nat} {vs : List AV} {b : List ABox} {fr : Fr} {k : AV → List ABox → Fr → Prop} (ys : List AV) (a : VCond) (h : C.ret f ys (.agg (tCond.tk a 0)) (tCond.fr a)) (hv : SeesL Sees0 vs ys)
 (hk : k (.agg (tCond.tk a fr.length)) b (fr ++ tCond.fr a)) : ACall C lend f vs b fr k := ACall.mkA tCond ys a h hv hk
theorem Abs.ACall.mk_CondS {C : Con} {lend : Bool} {f : Nat} {vs : List AV} {b : List ABox} {fr : Fr} {k : AV → List ABox → Fr → Prop} (ys : List AV) (l : List VCond) (h : C.ret f ys (.list (some (0 + (frs tCond l).length)) (tks tCond l 0)) (tConds.fr l)) (hv : SeesL Sees0 vs ys)
 (hk : k (.list (some (fr.length + (frs tCond l).length)) (tks tCond l fr.length)) b (fr ++ tConds.fr l)) : ACall C lend f vs b fr k :=
 ACall.mkV tConds ys l (fun n => .list (some (n + (frs tCond l).length)) (tks tCond l n)) (fun _ => rfl) h hv hk
theorem toCond.ret (a : VCond) (h : tCond.size a ≤ 1048576) : toCond.Ret [.agg (oldL (tCond.q a))] (.agg (tCond.tk a 0)) (tCond.fr a) := by
 refine toCond.ir.of rfl ?_
 rw [tCond_size] at h
 repeat' first
  | (conv => whnf
     first | refine Need.mk ⟨rfl, Nat.le_of_ble_eq_true rfl⟩ ?_ | refine nb_ ?_ | refine FinAgg.keep ?_ | refine Final.mk rfl rfl | refine ACall.mk_Pattern _ _ (toPattern.ret _ ?_) (by repeat' first | exact SeesL.nil | refine SeesL.cons ?_ ?_ | exact SeesB.of0 (Sees0.val _) | exact SeesB.of0 (Sees0.str _) | exact SeesB.of0 (Sees0.olds _ _) | exact SeesB.of0 (Sees0.old _) | exact SeesB.of0 (Sees0.oldagg _) | exact SeesB.of0 Sees0.nil | exact Sees0.val _ | exact Sees0.str _ | exact Sees0.olds _ _ | exact Sees0.old _ | exact Sees0.oldagg _ | exact Sees0.nil | exact SeesB.of0 (Sees0.any _) | assumption | exact sees_gv _ _ _ (by assumption) (by first | assumption | exact BoxIn.last _ _ | exact BoxIn.more (BoxIn.last _ _) _) | refine SeesB.agg ?_ | refine Sees0.agg ?_ | exact SeesB.of0 (Sees0.clo SeesL.nil SeesL.nil) | exact Sees0.clo SeesL.nil SeesL.nil | exact SeesB.of0 (Sees0.list rfl) | exact Sees0.list rfl) ?_)
 all_goals first
  | omega
  | (refine congrArg AV.agg ?_
     repeat' first
      | refine cons_congr ?_ ?_
      | refine tok_congr ?_ ?_
      | refine congrArg (tks _ _) ?_
      | rfl
     all_goals (simp [Ty.pair, Ty.str, Ty.int, Ty.bool, Nat.add_assoc]; done))
  | (simp [tCond, Ty.pair, Ty.str, Ty.int, Ty.bool, List.append_assoc, Nat.add_assoc]; done)
theorem szCond.ret (f : VCond) (a : Int) (h0 : 0 ≤ a) (ha : a ≤ 1048576) (hb : tCond.bd f) :
 szCond.Ret [.agg (oldL (tCond.q f)), .val (.int .i64 a)] (.val (.int .i64 (left a (tCond.size f)))) [] := by
 refine szCond.ir.of rfl ?_
 have hz := tCond_size f
 obtain ⟨hb0, hb1, hb2, hb3⟩ := hb
 have hb2 : f.2.2.1.length ≤ 9223372036854775807 := hb2
 have hb3 : f.2.2.2.length ≤ 9223372036854775807 := hb3
 by_cases c1 : a < (tPattern.size f.2.1 : Int)
 ·have e0 : left a (tPattern.size f.2.1) = -1 := by rw [left, if_pos (by omega)]
  repeat' first
   | (conv => whnf
      first | refine Need.mk rfl ?_ | refine nb_ ?_ | refine Fork.decYes (by omega) ?_ | refine FinVal.keep ?_ | refine Final.mk ?_ rfl | refine ACall.scalA _ _ (szPattern.ret _ _ ?_ ?_ ?_) rfl ?_)
   | refine AV.int_congr ?_
  all_goals first
   | assumption
   | omega
   | exact left_eq (by omega)
 by_cases c2 : a < (tPattern.size f.2.1 : Int) + (f.2.2.1.length : Int)
 ·have e0 : left a (tPattern.size f.2.1) = a - (tPattern.size f.2.1 : Int) := by rw [left, if_neg (by omega)]
  have e1 : IntKind.i64.wrap (left a (tPattern.size f.2.1) - (f.2.2.1.length : Int)) = a - (tPattern.size f.2.1 : Int) - (f.2.2.1.length : Int) := by rw [e0, wrap64 (by omega) (by omega)]
  repeat' first
   | (conv => whnf
      first | refine Need.mk rfl ?_ | refine nb_ ?_ | refine Fork.decYes (by omega) ?_ | refine Fork.decNo (by omega) ?_ | refine FinVal.keep ?_ | refine Final.mk ?_ rfl | refine ACall.scalA _ _ (szPattern.ret _ _ ?_ ?_ ?_) rfl ?_)
   | refine AV.int_congr ?_
  all_goals first
   | assumption
   | omega
   | exact left_eq (by omega)
 by_cases c3 : a < (tPattern.size f.2.1 : Int) + (f.2.2.1.length : Int) + (f.2.2.2.length : Int)
 ·have e0 : left a (tPattern.size f.2.1) = a - (tPattern.size f.2.1 : Int) := by rw [left, if_neg (by omega)]
  have e1 : IntKind.i64.wrap (left a (tPattern.size f.2.1) - (f.2.2.1.length : Int)) = a - (tPattern.size f.2.1 : Int) - (f.2.2.1.length : Int) := by rw [e0, wrap64 (by omega) (by omega)]
  have e2 : IntKind.i64.wrap (IntKind.i64.wrap (left a (tPattern.size f.2.1) - (f.2.2.1.length : Int)) - (f.2.2.2.length : Int)) = a - (tPattern.size f.2.1 : Int) - (f.2.2.1.length : Int) - (f.2.2.2.length : Int) := by rw [e1, wrap64 (by omega) (by omega)]
  repeat' first
   | (conv => whnf
      first | refine Need.mk rfl ?_ | refine nb_ ?_ | refine Fork.decYes (by omega) ?_ | refine Fork.decNo (by omega) ?_ | refine FinVal.keep ?_ | refine Final.mk ?_ rfl | refine ACall.scalA _ _ (szPattern.ret _ _ ?_ ?_ ?_) rfl ?_)
   | refine AV.int_congr ?_
  all_goals first
   | assumption
   | omega
   | exact left_eq (by omega)
 have e0 : left a (tPattern.size f.2.1) = a - (tPattern.size f.2.1 : Int) := by rw [left, if_neg (by omega)]
 have e1 : IntKind.i64.wrap (left a (tPattern.size f.2.1) - (f.2.2.1.length : Int)) = a - (tPattern.size f.2.1 : Int) - (f.2.2.1.length : Int) := by rw [e0, wrap64 (by omega) (by omega)]
 have e2 : IntKind.i64.wrap (IntKind.i64.wrap (left a (tPattern.size f.2.1) - (f.2.2.1.length : Int)) - (f.2.2.2.length : Int)) = a - (tPattern.size f.2.1 : Int) - (f.2.2.1.length : Int) - (f.2.2.2.length : Int) := by rw [e1, wrap64 (by omega) (by omega)]
 repeat' first
  | (conv => whnf
     first | refine Need.mk rfl ?_ | refine nb_ ?_ | refine Fork.decNo (by omega) ?_ | refine FinVal.keep ?_ | refine Final.mk ?_ rfl | refine ACall.scalA _ _ (szPattern.ret _ _ ?_ ?_ ?_) rfl ?_)
  | refine AV.int_congr ?_
 all_goals first
  | assumption
  | omega
  | exact left_eq (by omega)
theorem eqCond.big (f g : VCond) (h : tCond.size f ≤ 1099511627775) : eqCond.Ret [.agg (oldL (tCond.q f)), .agg (oldL (tCond.q g))] (.val (.bool (decide (f = g)))) [] := by
 refine eqCond.ir.of rfl ?_
 have hz := tCond_size f
 repeat' first
  | (conv => whnf
     first | refine Need.mk rfl ?_ | refine nb_ ?_ | refine Fork.bne (fun _ => ?_) (fun _ => ?_) | refine Fork.sne (fun _ => ?_) (fun _ => ?_) | refine Fork.neg (fun _ => ?_) (fun _ => ?_) | refine FinVal.keep ?_ | refine Final.mk ?_ rfl | refine ACall.scalA _ _ (eqPattern.big _ _ ?_) rfl ?_)
  | refine AV.bool_congr ?_
 all_goals first
  | omega
  | (simp only [tStrs_size, tInts_size] at *; omega)
  | (obtain ⟨x0, ⟨x10, x11⟩, x2, x3⟩ := f; obtain ⟨y0, ⟨y10, y11⟩, y2, y3⟩ := g; simp_all)
theorem toCondS.ret (l : List VCond) (h : tConds.size l ≤ 1048576) : toCondS.Ret [.list none (rows tCond l)] (.list (some (0 + (frs tCond l).length)) (tks tCond l 0)) (tConds.fr l) := by
 refine toCondS.ir.of rfl ?_
 rw [tConds_sz] at h
 repeat' first
  | (conv => whnf
     first | refine Need.fin ?_)
 refine ALoop.mk Nat (fun i => ⟨[(0, .list none (rows tCond l)), (3, .bsl 0 l.length), (4, .val (.int .i64 i))], [.cells (.row 116 5) (part [.val (.int .i64 0), .str [], .val (.slice none 0 0), .str [], .str []] (tks tCond l 0) i)], frs tCond (l.take i)⟩) (fun i => i ≤ l.length) (fun i => l.length - i) ⟨0, Nat.zero_le _, ?_⟩ (fun i hi => ?_)
 ·repeat' first
   | exact trivial | refine wl_ ?_ ?_ ?_ ?_ | refine And.intro ?_ ?_ | with_reducible rfl | exact ble_ | refine AV.int_congr ?_ | refine AV.list_congr ?_ | refine AV.bsl_congr ?_ ?_ | (apply rfl)
  ·simp
  ·simp only [List.nil_append, List.length_cons, List.length_nil, List.take_succ_cons, List.take_zero]
   rw [part_made (xs := tks tCond l 0) (sz := 5) rfl (by decide) (by simp [length_tks])]; rfl
 repeat' first
  | (conv => whnf
     first | refine Need.mk rfl ?_ | refine nb_ ?_ | refine Need.fin ?_ | refine Need.mk ?_ ?_ | refine Ix.mapF (fun _ => rfl) ?_ | refine Fork.dec (fun _ => ?_) (fun _ => ?_) | refine Round.mk ?_ | refine ACall.mk_Cond _ _ (toCond.ret _ ?_) (by repeat' first | exact SeesL.nil | refine SeesL.cons ?_ ?_ | exact SeesB.of0 (Sees0.val _) | exact SeesB.of0 (Sees0.str _) | exact SeesB.of0 (Sees0.olds _ _) | exact SeesB.of0 (Sees0.old _) | exact SeesB.of0 (Sees0.oldagg _) | exact SeesB.of0 Sees0.nil | exact Sees0.val _ | exact Sees0.str _ | exact Sees0.olds _ _ | exact Sees0.old _ | exact Sees0.oldagg _ | exact Sees0.nil | exact SeesB.of0 (Sees0.any _) | assumption | exact sees_gv _ _ _ (by assumption) (by first | assumption | exact BoxIn.last _ _ | exact BoxIn.more (BoxIn.last _ _) _) | refine SeesB.agg ?_ | refine Sees0.agg ?_ | exact SeesB.of0 (Sees0.clo SeesL.nil SeesL.nil) | exact Sees0.clo SeesL.nil SeesL.nil | exact SeesB.of0 (Sees0.list rfl) | exact Sees0.list rfl) ?_)
 ·rename_i h1
  rw [length_rows] at h1
  have := listSize_mem tCond (List.mem_of_getElem? (tCond_get (l := l) (i := i) (by omega)))
  rw [Int.toNat_natCast]; omega
 ·rename_i h1
  rw [length_rows] at h1
  rw [part_len (sz := 5) rfl (tks_sz tCond l 0) (by rw [length_tks]; exact hi), Int.toNat_natCast, length_tks]
  exact ⟨rfl, by omega⟩
 ·rename_i h1
  rw [length_rows] at h1
  refine ⟨i + 1, by omega, ?_, by omega⟩
  repeat' first
   | exact trivial | refine wl_ ?_ ?_ ?_ ?_ | refine And.intro ?_ ?_ | with_reducible rfl | exact ble_ | refine AV.int_congr ?_ | refine AV.list_congr ?_ | refine AV.bsl_congr ?_ ?_
  ·rw [wrap64 (by omega) (by omega)]; rfl
  ·have := part_set (z := [.val (.int .i64 0), .str [], .val (.slice none 0 0), .str [], .str []]) (sz := 5) rfl (tks_sz tCond l 0) (tks_get tCond 0 (tCond_get (l := l) (i := i) (by omega)))
   rw [Nat.zero_add] at this
   simp only [List.set_cons_zero, List.take_succ_cons, List.take_zero, List.length_cons, List.length_nil, Int.toNat_natCast, this]
  ·show frs tCond (l.take i) ++ tCond.fr (l.getD (i : Int).toNat default) = frs tCond (l.take (i + 1))
   rw [Int.toNat_natCast, take_succ' default (by omega), frs_append]; simp [frs]
 ·rename_i h1
  rw [length_rows] at h1
  conv => whnf
  have : i = l.length := by omega
  subst this
  have hall := part_all [.val (.int .i64 0), .str [], .val (.slice none 0 0), .str [], .str []] (tks tCond l 0)
  rw [length_tks] at hall
  refine FreezeD.flat (Freeze.mk (tks tCond l 0) _ 116 5 rfl hall (length_tks _ _ _) (tks_sz tCond l 0) (fun c hc => ?_) ?_)
  ·rw [hall] at hc; exact tks_nr tCond l 0 c hc
  ·refine Final.mk ?_ ?_
   ·rw [List.take_length, Nat.zero_add]
   ·rw [List.take_length]; rfl
theorem szCondS.ret (l : List VCond) (a : Int) (h0 : 0 ≤ a) (ha : a ≤ 1048576) (hb : tConds.bd l) :
 szCondS.Ret [.list none (rows tCond l), .val (.int .i64 a)] (.val (.int .i64 (left a (tConds.size l)))) [] := by
 refine szCondS.ir.of rfl ?_
 obtain ⟨hl, hb⟩ := hb
 have hw : IntKind.i64.wrap (a - ((rows tCond l).length : Int)) = a - l.length := by rw [length_rows]; exact wrap64 (by omega) (by omega)
 have hz := tConds_sz l
 repeat' first
  | (conv => whnf
     first | refine Need.mk rfl ?_ | refine Fork.dec (fun _ => ?_) (fun _ => ?_) | refine FinVal.keep ?_ | refine Final.mk ?_ rfl)
  | refine AV.int_congr ?_
 ·rename_i h
  rw [hw] at h
  rw [left, if_pos (by omega)]
 rename_i h
 rw [hw] at h
 skip
 refine ALoop.mk Nat (fun i => ⟨[(0, .list none (rows tCond l)), (1, .val (.int .i64 (a - l.length - listSize tCond (l.take i)))), (5, .val (.int .i64 i))], [], []⟩) (fun i => i ≤ l.length ∧ (0 : Int) ≤ a - l.length - listSize tCond (l.take i)) (fun i => l.length - i) ⟨0, ⟨Nat.zero_le _, by simp [listSize]; omega⟩, ?_⟩ (fun i hi => ?_)
 ·repeat' first
   | exact trivial | refine wl_ ?_ ?_ ?_ ?_ | refine And.intro ?_ ?_ | with_reducible rfl | exact ble_ | refine AV.int_congr ?_ | refine AV.list_congr ?_ | (apply rfl)
  rw [hw]; simp [listSize]
 obtain ⟨hp1, hp2⟩ := hi
 have hle := listSize_take_le tCond l (i + 1)
 have hbi : i < l.length → tCond.bd (l.getD i default) := fun h => hb _ (List.mem_of_getElem? (tCond_get h))
 have hsz : i < l.length → listSize tCond (l.take (i + 1)) = listSize tCond (l.take i) + tCond.size (l.getD i default) := fun h => listSize_take_succ tCond (tCond_get h)
 repeat' first
  | (conv => whnf
     first | refine Need.mk rfl ?_ | refine nb_ ?_ | refine Ix.mapF (fun _ => rfl) ?_ | refine Fork.dec (fun _ => ?_) (fun _ => ?_) | refine Round.mk ?_ | refine FinVal.keep ?_ | refine Final.mk ?_ rfl | refine ACall.scalA _ _ (szCond.ret _ _ ?_ ?_ ?_) rfl ?_)
  | refine AV.int_congr ?_
 ·exact hp2
 ·omega
 ·rename_i h1
  rw [length_rows] at h1
  rw [Int.toNat_natCast]; exact hbi (by omega)
 ·rename_i h1 h2
  rw [length_rows] at h1
  rw [Int.toNat_natCast] at h2
  have := hsz (by omega)
  unfold left at h2 ⊢
  split at h2
  ·rw [if_pos (by omega)]
  ·omega
 ·rename_i h1 h2
  rw [length_rows] at h1
  rw [Int.toNat_natCast] at h2
  have := hsz (by omega)
  have e : left (a - ↑l.length - ↑(listSize tCond (l.take i))) (tCond.size (l.getD i default)) = a - ↑l.length - ↑(listSize tCond (l.take (i + 1))) := by
   unfold left at h2 ⊢
   split at h2
   ·omega
   ·rw [if_neg ‹_›]; omega
  refine ⟨i + 1, ⟨by omega, ?_⟩, ?_, by omega⟩
  ·rw [← e]; omega
  ·repeat' first
    | exact trivial | refine wl_ ?_ ?_ ?_ ?_ | refine And.intro ?_ ?_ | with_reducible rfl | exact ble_ | refine AV.int_congr ?_ | refine AV.list_congr ?_ | (apply rfl)
   ·rw [Int.toNat_natCast]; exact e
   ·rw [wrap64 (by omega) (by omega)]; rfl
 ·rename_i h1
  rw [length_rows] at h1
  rw [List.take_of_length_le (by omega)] at hp2 ⊢
  rw [left, if_neg (by omega)]; omega
theorem eqCondS.big (l m : List VCond) (h : tConds.size l ≤ 1099511627775) : eqCondS.Ret [.list none (rows tCond l), .list none (rows tCond m)] (.val (.bool (decide (l = m)))) [] := by
 refine eqCondS.ir.of rfl ?_
 rw [tConds_sz] at h
 repeat' first
  | (conv => whnf
     first | refine Need.mk rfl ?_ | refine Fork.bne (fun _ => ?_) (fun _ => ?_) | refine FinVal.keep ?_ | refine Final.mk ?_ rfl)
  | refine AV.bool_congr ?_
 ·rename_i h
  rw [length_rows, length_rows] at h
  have h3 : ¬ l = m := fun e => h (by rw [e])
  simp [h3]
 rename_i h
 rw [length_rows, length_rows] at h
 have h : l.length = m.length := by omega
 skip
 refine ALoop.mk Nat (fun i => ⟨[(0, .list none (rows tCond l)), (1, .list none (rows tCond m)), (5, .val (.int .i64 i))], [], []⟩) (fun i => i ≤ l.length ∧ l.take i = m.take i) (fun i => l.length - i) ⟨0, ⟨Nat.zero_le _, rfl⟩, ?_⟩ (fun i hi => ?_)
 ·repeat' first
   | exact trivial | refine wl_ ?_ ?_ ?_ ?_ | refine And.intro ?_ ?_ | with_reducible rfl | exact ble_ | refine AV.int_congr ?_ | refine AV.list_congr ?_ | (apply rfl)
 repeat' first
  | (conv => whnf
     first | refine Need.mk rfl ?_ | refine nb_ ?_ | refine Ix.mapF (fun _ => rfl) ?_ | refine Fork.dec (fun _ => ?_) (fun _ => ?_) | refine Fork.neg (fun _ => ?_) (fun _ => ?_) | refine Round.mk ?_ | refine FinVal.keep ?_ | refine Final.mk ?_ rfl | refine AQCall.mkA _ _ (fun hg => eqCond.big _ _ ?_) rfl ?_)
  | refine AV.bool_congr ?_
 ·rename_i h1
  rw [length_rows] at h1
  have := listSize_mem tCond (List.mem_of_getElem? (tCond_get (l := l) (i := i) (by omega)))
  rw [Int.toNat_natCast]; omega
 ·rename_i h1 h2
  have h3 : ¬ l = m := fun e => of_decide_eq_false h2 (by rw [e])
  simp [h3]
 ·rename_i h1 h2
  rw [length_rows] at h1
  rw [Int.toNat_natCast] at h2
  refine ⟨i + 1, ⟨by omega, ?_⟩, ?_, by omega⟩
  ·rw [take_succ' default (by omega), take_succ' (l := m) default (by omega), hi.2, of_decide_eq_true h2]
  ·repeat' first
    | exact trivial | refine wl_ ?_ ?_ ?_ ?_ | refine And.intro ?_ ?_ | with_reducible rfl | exact ble_ | refine AV.int_congr ?_ | refine AV.list_congr ?_ | (apply rfl)
   rw [wrap64 (by omega) (by omega)]; rfl
 ·rename_i h1
  rw [length_rows] at h1
  have h2 := hi.2
  rw [List.take_of_length_le (by omega), List.take_of_length_le (by omega)] at h2
  simp [h2]
theorem markCondS.tn (l : List VCond) (k : Nat) (hs : tConds.size l ≤ 1099511627775) (hk : k + cn (.l 116 5 (l.map tCond.q)) ≤ 1099511627775) :
 markCondS.Turn (gb (.l 116 5 (l.map tCond.q)) 0) [gv (.l 116 5 (l.map tCond.q)) 0, .val (.int .i64 k)] (.val (.int .i64 ((k + cn (.l 116 5 (l.map tCond.q)) : Nat)))) (gb (mk (.l 116 5 (l.map tCond.q)) k) 0) := by
 refine markCondS.ofT rfl rfl (by rw [length_gb, nb_mk]) ?_
 obtain ⟨cs, hcs⟩ : ∃ cs, cs = (l.map tCond.q).flatten := ⟨_, rfl⟩
 have hlen : cs.length = l.length * 5 := by rw [hcs]; exact flat_len _ 5 tCond.hq l
 have hc0 : ∀ i, i < l.length → cs[i * 5 + 0]? = some (.v (.int .i64 (l.getD i default).1)) := fun i hi => by rw [hcs]; exact cell_at tCond.q 5 tCond.hq hi rfl
 have hc1 : ∀ i, i < l.length → cs[i * 5 + 1]? = some (.s (l.getD i default).2.1.1) := fun i hi => by rw [hcs]; exact cell_at tCond.q 5 tCond.hq hi rfl
 have hc2 : ∀ i, i < l.length → cs[i * 5 + 2]? = some (.l 9 1 ((l.getD i default).2.1.2.map Ty.str.q)) := fun i hi => by rw [hcs]; exact cell_at tCond.q 5 tCond.hq hi rfl
 have hc3 : ∀ i, i < l.length → cs[i * 5 + 3]? = some (.s (l.getD i default).2.2.1) := fun i hi => by rw [hcs]; exact cell_at tCond.q 5 tCond.hq hi rfl
 have hc4 : ∀ i, i < l.length → cs[i * 5 + 4]? = some (.s (l.getD i default).2.2.2) := fun i hi => by rw [hcs]; exact cell_at tCond.q 5 tCond.hq hi rfl
 rw [gb_mk_l0, gb_l0, cn_l, gv, List.length_map, ← hcs]
 rw [cn_l, ← hcs] at hk
 clear hcs
 skip
 refine ALoop.mk Nat (fun i => ⟨[(0, .bsl 0 l.length), (1, .val (.int .i64 ((k + cnC (cs.take (i * 5)) : Nat)))), (5, .val (.int .i64 i))], .cells (.row 116 5) (gvL (st cs k (i * 5)) 1) :: gbL (st cs k (i * 5)) 1, []⟩) (fun i => i ≤ l.length) (fun i => l.length - i) ⟨0, Nat.zero_le _, ?_⟩ (fun i hi => ?_)
 ·refine weak_st ⟨rfl, ?_, rfl, trivial⟩ ?_ ?_ rfl ?_
  ·rw [Nat.zero_mul]; rfl
  ·rw [Nat.zero_mul, st_zero]
  ·rw [Nat.zero_mul, st_zero]
  ·rw [Nat.zero_mul, st_zero, List.length_cons]; exact Nat.le_refl _
 have hle := cn_take_le cs (i * 5)
 rw [tConds_sz] at hs
 rcases Nat.lt_or_ge i l.length with hlt | hge
 rotate_left
 ·have hiw : i * 5 = cs.length := by omega
  repeat' first
   | (conv => whnf
      first | refine Need.mk rfl ?_ | refine Fork.decNo (by omega) ?_ | refine forceBx_of ?_ | refine FinalT.mk ?_ ?_)
   | refine AV.int_congr ?_
  ·rw [hiw, List.take_length]
  ·rw [hiw, st_all cs k rfl]; exact take_all (by rw [List.length_cons, List.length_cons, length_gbL, length_gbL, nbL_mkC]; exact Nat.le_refl _)
 have hi1 : (i + 1) * 5 = i * 5 + 5 := by omega
 have hsz := tCond_le hlt
 have hz13 := tCond_size (l.getD i default)
 have hz14 := tPattern_size (l.getD i default).2.1
 have l0 := cn_take_le cs (i * 5 + 1)
 have n0 : cnC (cs.take (i * 5 + 1)) = cnC (cs.take (i * 5)) + 1 := cn_succ (hc0 i hlt)
 have w0 : IntKind.i64.wrap (((k + cnC (cs.take (i * 5)) : Nat) : Int) + 1) = ((k + cnC (cs.take (i * 5 + 1)) : Nat) : Int) := by rw [wrap64 (by omega) (by omega)]; omega
 have b0 : gbL (st cs k (i * 5 + 1)) 1 = gbL (st cs k (i * 5)) 1 := gbL_st k 1 (hc0 i hlt) rfl
 have g0 : gvL (st cs k (i * 5 + 1)) 1 = (gvL (st cs k (i * 5)) 1).set (i * 5) (.val (.int .i64 (((k + cnC (cs.take (i * 5)) : Nat) : Int)))) := gvL_st k 1 (hc0 i hlt)
 have l1 := cn_take_le cs (i * 5 + 2)
 have n1 : cnC (cs.take (i * 5 + 2)) = cnC (cs.take (i * 5 + 1)) + 1 := cn_succ (hc1 i hlt)
 have w1 : IntKind.i64.wrap (IntKind.i64.wrap (((k + cnC (cs.take (i * 5)) : Nat) : Int) + 1) + 1) = ((k + cnC (cs.take (i * 5 + 2)) : Nat) : Int) := by rw [w0, wrap64 (by omega) (by omega)]; omega
 have b1 : gbL (st cs k (i * 5 + 2)) 1 = gbL (st cs k (i * 5 + 1)) 1 := gbL_st k 1 (hc1 i hlt) rfl
 have g1 : gvL (st cs k (i * 5 + 2)) 1 = (gvL (st cs k (i * 5 + 1)) 1).set (i * 5 + 1) (.str (markF (k + cnC (cs.take (i * 5 + 1))))) := gvL_st k 1 (hc1 i hlt)
 repeat' first
  | (conv => whnf
     first | refine Need.mk rfl ?_ | refine Need.fin ?_ | refine Need.mk ⟨rfl, by simp only [length_setAt, List.length_set, length_gvL, length_st, Int.toNat_natCast]; omega⟩ ?_ | refine Fork.decYes (by omega) ?_ | refine forceBx_of ?_)
 conv => whnf
 refine ACall.scal [.val (.int .i64 ((k + cnC (cs.take (i * 5 + 1)) : Nat)))] _ (markText.ret (k + cnC (cs.take (i * 5 + 1))) (by omega)) rfl (.cons (SeesB.of0 (by rw [w0]; exact Sees0.val _)) .nil) ?_
 repeat' first
  | (conv => whnf
     first | refine Need.mk rfl ?_ | refine Need.fin ?_ | refine Need.mk ⟨rfl, by simp only [length_setAt, List.length_set, length_gvL, length_st, Int.toNat_natCast]; omega⟩ ?_)
 have l2 := cn_take_le cs (i * 5 + 3)
 have n2 : cnC (cs.take (i * 5 + 3)) = cnC (cs.take (i * 5 + 2)) + cn (.l 9 1 ((l.getD i default).2.1.2.map Ty.str.q)) := cn_succ (hc2 i hlt)
 have g2 : gvL (st cs k (i * 5 + 3)) 1 = gvL (st cs k (i * 5 + 2)) 1 := gvL_stL k 1 (hc2 i hlt)
 have t2 : markStringS.Turn (gb (.l 9 1 ((l.getD i default).2.1.2.map Ty.str.q)) 0) [gv (.l 9 1 ((l.getD i default).2.1.2.map Ty.str.q)) 0, .val (.int .i64 ((k + cnC (cs.take (i * 5 + 2)) : Nat)))] (.val (.int .i64 ((k + cnC (cs.take (i * 5 + 3)) : Nat)))) (gb (mk (.l 9 1 ((l.getD i default).2.1.2.map Ty.str.q)) (k + cnC (cs.take (i * 5 + 2)))) 0) := by
  have h := markStringS.tn (l.getD i default).2.1.2 (k + cnC (cs.take (i * 5 + 2))) (by omega) (by omega)
  rw [Nat.add_assoc, ← n2] at h; exact h
 have d2 : (((gvL (st cs k (i * 5)) 1).set (i * 5) (.val (.int .i64 (((k + cnC (cs.take (i * 5)) : Nat) : Int))))).set (i * 5 + 1) (.str (markF (k + cnC (cs.take (i * 5 + 1)))))).drop (i * 5 + 2) = gv (.l 9 1 ((l.getD i default).2.1.2.map Ty.str.q)) (1 + nbL (cs.take (i * 5 + 2))) :: gvL (cs.drop (i * 5 + 2 + 1)) (1 + nbL (cs.take (i * 5 + 2)) + nb (.l 9 1 ((l.getD i default).2.1.2.map Ty.str.q))) := by
  have h := ld_st k 1 (hc2 i hlt)
  try simp only [Nat.add_zero] at h
  rw [g1, g0] at h
  exact h
 conv => whnf
 refine takeAV_one (n := 1) _ _ d2 ?_
 conv => whnf
 refine ACall.turn' (.cells (.row 116 5) (((gvL (st cs k (i * 5)) 1).set (i * 5) (.val (.int .i64 (((k + cnC (cs.take (i * 5)) : Nat) : Int))))).set (i * 5 + 1) (.str (markF (k + cnC (cs.take (i * 5 + 1)))))) :: gbL (st cs k (i * 5 + 3)) 1) [gv (.l 9 1 ((l.getD i default).2.1.2.map Ty.str.q)) 0, .val (.int .i64 ((k + cnC (cs.take (i * 5 + 2)) : Nat)))] (.l 9 1 ((l.getD i default).2.1.2.map Ty.str.q)) (mk (.l 9 1 ((l.getD i default).2.1.2.map Ty.str.q)) (k + cnC (cs.take (i * 5 + 2)))) _ (.cells (.row 116 5) (((gvL (st cs k (i * 5)) 1).set (i * 5) (.val (.int .i64 (((k + cnC (cs.take (i * 5)) : Nat) : Int))))).set (i * 5 + 1) (.str (markF (k + cnC (cs.take (i * 5 + 1)))))) :: gbL (mkC (cs.take (i * 5 + 2)) k) 1) (gbL (cs.drop (i * 5 + 2 + 1)) (1 + nbL (cs.take (i * 5 + 2)) + nb (.l 9 1 ((l.getD i default).2.1.2.map Ty.str.q)))) t2 rfl ?_ (nb_mk _ _) (.cons (.inl ⟨by rw [pre_st]; rfl, rfl⟩) (.cons (.inr (by rw [w1]; exact Sees0.val _)) .nil)) ?_ ?_
 ·rw [← b0]; rw [← b1]; exact bx_st k (hc2 i hlt) _
 ·exact bx_st' k (hc2 i hlt) _
 skip
 have l3 := cn_take_le cs (i * 5 + 4)
 have n3 : cnC (cs.take (i * 5 + 4)) = cnC (cs.take (i * 5 + 3)) + 1 := cn_succ (hc3 i hlt)
 have w3 : IntKind.i64.wrap (((k + cnC (cs.take (i * 5 + 3)) : Nat) : Int) + 1) = ((k + cnC (cs.take (i * 5 + 4)) : Nat) : Int) := by rw [wrap64 (by omega) (by omega)]; omega
 have b3 : gbL (st cs k (i * 5 + 4)) 1 = gbL (st cs k (i * 5 + 3)) 1 := gbL_st k 1 (hc3 i hlt) rfl
 have g3 : gvL (st cs k (i * 5 + 4)) 1 = (gvL (st cs k (i * 5 + 3)) 1).set (i * 5 + 3) (.str (markF (k + cnC (cs.take (i * 5 + 3))))) := gvL_st k 1 (hc3 i hlt)
 conv => whnf
 refine ACall.scal [.val (.int .i64 ((k + cnC (cs.take (i * 5 + 3)) : Nat)))] _ (markText.ret (k + cnC (cs.take (i * 5 + 3))) (by omega)) rfl (.cons (SeesB.of0 (by exact Sees0.val _)) .nil) ?_
 repeat' first
  | (conv => whnf
     first | refine Need.mk rfl ?_ | refine Need.fin ?_ | refine Need.mk ⟨rfl, by simp only [length_setAt, List.length_set, length_gvL, length_st, Int.toNat_natCast]; omega⟩ ?_)
 have l4 := cn_take_le cs (i * 5 + 5)
 have n4 : cnC (cs.take (i * 5 + 5)) = cnC (cs.take (i * 5 + 4)) + 1 := cn_succ (hc4 i hlt)
 have w4 : IntKind.i64.wrap (IntKind.i64.wrap (((k + cnC (cs.take (i * 5 + 3)) : Nat) : Int) + 1) + 1) = ((k + cnC (cs.take (i * 5 + 5)) : Nat) : Int) := by rw [w3, wrap64 (by omega) (by omega)]; omega
 have b4 : gbL (st cs k (i * 5 + 5)) 1 = gbL (st cs k (i * 5 + 4)) 1 := gbL_st k 1 (hc4 i hlt) rfl
 have g4 : gvL (st cs k (i * 5 + 5)) 1 = (gvL (st cs k (i * 5 + 4)) 1).set (i * 5 + 4) (.str (markF (k + cnC (cs.take (i * 5 + 4))))) := gvL_st k 1 (hc4 i hlt)
 conv => whnf
 refine ACall.scal [.val (.int .i64 ((k + cnC (cs.take (i * 5 + 4)) : Nat)))] _ (markText.ret (k + cnC (cs.take (i * 5 + 4))) (by omega)) rfl (.cons (SeesB.of0 (by rw [w3]; exact Sees0.val _)) .nil) ?_
 repeat' first
  | (conv => whnf
     first | refine Need.mk rfl ?_ | refine Need.fin ?_ | refine Need.mk ⟨rfl, by simp only [length_setAt, List.length_set, length_gvL, length_st, Int.toNat_natCast]; omega⟩ ?_ | refine Round.mk ?_)
 refine ⟨i + 1, by omega, weak_st ⟨rfl, AV.int_congr ?_, AV.int_congr ?_, trivial⟩ (congrArg (ABox.cells (.row 116 5)) ?_) ?_ rfl ?_, by omega⟩
 ·rw [hi1]; exact w4
 ·rw [wrap64 (by omega) (by omega)]; rfl
 ·rw [hi1, g4, g3, g2, g1, g0]
  try rfl
 ·rw [hi1, b4, b3]
 ·simp only [hi1, List.length_cons, length_gbL, nbL_st, Nat.le_refl]
open Abs
abbrev VAction := Int × VPattern
instance : DecidableEq VAction := instDecidableEqProd
def tAction : Ty VAction := Ty.pair Ty.int tPattern
theorem tAction_size (a : VAction) : tAction.size a = 0 + tPattern.size a.2 := rfl
theorem tAction_cn : CnB tAction 3 := CnB.pair CnB.int tPattern_cn
def tActions : Ty (List VAction) := Ty.list 123 tAction
theorem tActions_sz (l : List VAction) : tActions.size l = l.length + listSize tAction l := rfl
theorem tAction_get {l : List VAction} {i : Nat} (hi : i < l.length) : l[i]? = some (l.getD i default) := by simp [List.getD, hi]
theorem tAction_le {l : List VAction} {i : Nat} (hi : i < l.length) : tAction.size (l.getD i default) ≤ listSize tAction l := listSize_mem tAction (List.mem_of_getElem? (tAction_get hi))
theorem Abs.ACall.mk_Action {C : Con} {lend : Bool} {f : Nat} {vs : List AV} {b : List ABox} {fr : Fr} {k : AV → List ABox → Fr → Prop} (ys : List AV) (a : VAction) (h : C.ret f ys (.agg (tAction.tk a 0)) (tAction.fr a)) (hv : SeesL Sees0 vs ys)
 (hk : k (.agg (tAction.tk a fr.length)) b (fr ++ tAction.fr a)) : ACall C lend f vs b fr k := ACall.mkA tAction ys a h hv hk
theorem Abs.ACall.mk_ActionS {C : Con} {lend : Bool} {f : Nat} {vs : List AV} {b : List ABox} {fr : Fr} {k : AV → List ABox → Fr → Prop} (ys : List AV) (l : List VAction) (h : C.ret f ys (.list (some (0 + (frs tAction l).length)) (tks tAction l 0)) (tActions.fr l)) (hv : SeesL Sees0 vs ys)
 (hk : k (.list (some (fr.length + (frs tAction l).length)) (tks tAction l fr.length)) b (fr ++ tActions.fr l)) : ACall C lend f vs b fr k :=
 ACall.mkV tActions ys l (fun n => .list (some (n + (frs tAction l).length)) (tks tAction l n)) (fun _ => rfl) h hv hk
theorem toAction.ret (a : VAction) (h : tAction.size a ≤ 1048576) : toAction.Ret [.agg (oldL (tAction.q a))] (.agg (tAction.tk a 0)) (tAction.fr a) := by
 refine toAction.ir.of rfl ?_
 rw [tAction_size] at h
 repeat' first
  | (conv => whnf
     first | refine Need.mk ⟨rfl, Nat.le_of_ble_eq_true rfl⟩ ?_ | refine nb_ ?_ | refine FinAgg.keep ?_ | refine Final.mk rfl rfl | refine ACall.mk_Pattern _ _ (toPattern.ret _ ?_) (by repeat' first | exact SeesL.nil | refine SeesL.cons ?_ ?_ | exact SeesB.of0 (Sees0.val _) | exact SeesB.of0 (Sees0.str _) | exact SeesB.of0 (Sees0.olds _ _) | exact SeesB.of0 (Sees0.old _) | exact SeesB.of0 (Sees0.oldagg _) | exact SeesB.of0 Sees0.nil | exact Sees0.val _ | exact Sees0.str _ | exact Sees0.olds _ _ | exact Sees0.old _ | exact Sees0.oldagg _ | exact Sees0.nil | exact SeesB.of0 (Sees0.any _) | assumption | exact sees_gv _ _ _ (by assumption) (by first | assumption | exact BoxIn.last _ _ | exact BoxIn.more (BoxIn.last _ _) _) | refine SeesB.agg ?_ | refine Sees0.agg ?_ | exact SeesB.of0 (Sees0.clo SeesL.nil SeesL.nil) | exact Sees0.clo SeesL.nil SeesL.nil | exact SeesB.of0 (Sees0.list rfl) | exact Sees0.list rfl) ?_)
 all_goals first
  | omega
  | (refine congrArg AV.agg ?_
     repeat' first
      | refine cons_congr ?_ ?_
      | refine tok_congr ?_ ?_
      | refine congrArg (tks _ _) ?_
      | rfl
     all_goals (simp [Ty.pair, Ty.str, Ty.int, Ty.bool, Nat.add_assoc]; done))
  | (simp [tAction, Ty.pair, Ty.str, Ty.int, Ty.bool, List.append_assoc, Nat.add_assoc]; done)
theorem szAction.ret (f : VAction) (a : Int) (h0 : 0 ≤ a) (ha : a ≤ 1048576) (hb : tAction.bd f) :
 szAction.Ret [.agg (oldL (tAction.q f)), .val (.int .i64 a)] (.val (.int .i64 (left a (tAction.size f)))) [] := by
 refine szAction.ir.of rfl ?_
 have hz := tAction_size f
 obtain ⟨hb0, hb1⟩ := hb
 by_cases c1 : a < (tPattern.size f.2 : Int)
 ·have e0 : left a (tPattern.size f.2) = -1 := by rw [left, if_pos (by omega)]
  repeat' first
   | (conv => whnf
      first | refine Need.mk rfl ?_ | refine nb_ ?_ | refine Fork.decYes (by omega) ?_ | refine FinVal.keep ?_ | refine Final.mk ?_ rfl | refine ACall.scalA _ _ (szPattern.ret _ _ ?_ ?_ ?_) rfl ?_)
   | refine AV.int_congr ?_
  all_goals first
   | assumption
   | omega
   | exact left_eq (by omega)
 have e0 : left a (tPattern.size f.2) = a - (tPattern.size f.2 : Int) := by rw [left, if_neg (by omega)]
 repeat' first
  | (conv => whnf
     first | refine Need.mk rfl ?_ | refine nb_ ?_ | refine Fork.decNo (by omega) ?_ | refine FinVal.keep ?_ | refine Final.mk ?_ rfl | refine ACall.scalA _ _ (szPattern.ret _ _ ?_ ?_ ?_) rfl ?_)
  | refine AV.int_congr ?_
 all_goals first
  | assumption
  | omega
  | exact left_eq (by omega)
theorem eqAction.big (f g : VAction) (h : tAction.size f ≤ 1099511627775) : eqAction.Ret [.agg (oldL (tAction.q f)), .agg (oldL (tAction.q g))] (.val (.bool (decide (f = g)))) [] := by
 refine eqAction.ir.of rfl ?_
 have hz := tAction_size f
 repeat' first
  | (conv => whnf
     first | refine Need.mk rfl ?_ | refine nb_ ?_ | refine Fork.bne (fun _ => ?_) (fun _ => ?_) | refine Fork.neg (fun _ => ?_) (fun _ => ?_) | refine FinVal.keep ?_ | refine Final.mk ?_ rfl | refine ACall.scalA _ _ (eqPattern.big _ _ ?_) rfl ?_)
  | refine AV.bool_congr ?_
 all_goals first
  | omega
  | (simp only [tStrs_size, tInts_size] at *; omega)
  | (obtain ⟨x0, ⟨x10, x11⟩⟩ := f; obtain ⟨y0, ⟨y10, y11⟩⟩ := g; simp_all)
theorem toActionS.ret (l : List VAction) (h : tActions.size l ≤ 1048576) : toActionS.Ret [.list none (rows tAction l)] (.list (some (0 + (frs tAction l).length)) (tks tAction l 0)) (tActions.fr l) := by
 refine toActionS.ir.of rfl ?_
 rw [tActions_sz] at h
 repeat' first
  | (conv => whnf
     first | refine Need.fin ?_)
 refine ALoop.mk Nat (fun i => ⟨[(0, .list none (rows tAction l)), (3, .bsl 0 l.length), (4, .val (.int .i64 i))], [.cells (.row 123 3) (part [.val (.int .i64 0), .str [], .val (.slice none 0 0)] (tks tAction l 0) i)], frs tAction (l.take i)⟩) (fun i => i ≤ l.length) (fun i => l.length - i) ⟨0, Nat.zero_le _, ?_⟩ (fun i hi => ?_)
 ·repeat' first
   | exact trivial | refine wl_ ?_ ?_ ?_ ?_ | refine And.intro ?_ ?_ | with_reducible rfl | exact ble_ | refine AV.int_congr ?_ | refine AV.list_congr ?_ | refine AV.bsl_congr ?_ ?_ | (apply rfl)
  ·simp
  ·simp only [List.nil_append, List.length_cons, List.length_nil, List.take_succ_cons, List.take_zero]
   rw [part_made (xs := tks tAction l 0) (sz := 3) rfl (by decide) (by simp [length_tks])]; rfl
 repeat' first
  | (conv => whnf
     first | refine Need.mk rfl ?_ | refine nb_ ?_ | refine Need.fin ?_ | refine Need.mk ?_ ?_ | refine Ix.mapF (fun _ => rfl) ?_ | refine Fork.dec (fun _ => ?_) (fun _ => ?_) | refine Round.mk ?_ | refine ACall.mk_Action _ _ (toAction.ret _ ?_) (by repeat' first | exact SeesL.nil | refine SeesL.cons ?_ ?_ | exact SeesB.of0 (Sees0.val _) | exact SeesB.of0 (Sees0.str _) | exact SeesB.of0 (Sees0.olds _ _) | exact SeesB.of0 (Sees0.old _) | exact SeesB.of0 (Sees0.oldagg _) | exact SeesB.of0 Sees0.nil | exact Sees0.val _ | exact Sees0.str _ | exact Sees0.olds _ _ | exact Sees0.old _ | exact Sees0.oldagg _ | exact Sees0.nil | exact SeesB.of0 (Sees0.any _) | assumption | exact sees_gv _ _ _ (by assumption) (by first | assumption | exact BoxIn.last _ _ | exact BoxIn.more (BoxIn.last _ _) _) | refine SeesB.agg ?_ | refine Sees0.agg ?_ | exact SeesB.of0 (Sees0.clo SeesL.nil SeesL.nil) | exact Sees0.clo SeesL.nil SeesL.nil | exact SeesB.of0 (Sees0.list rfl) | exact Sees0.list rfl) ?_)
 ·rename_i h1
  rw [length_rows] at h1
  have := listSize_mem tAction (List.mem_of_getElem? (tAction_get (l := l) (i := i) (by omega)))
  rw [Int.toNat_natCast]; omega
 ·rename_i h1
  rw [length_rows] at h1
  rw [part_len (sz := 3) rfl (tks_sz tAction l 0) (by rw [length_tks]; exact hi), Int.toNat_natCast, length_tks]
  exact ⟨rfl, by omega⟩
 ·rename_i h1
  rw [length_rows] at h1
  refine ⟨i + 1, by omega, ?_, by omega⟩
  repeat' first
   | exact trivial | refine wl_ ?_ ?_ ?_ ?_ | refine And.intro ?_ ?_ | with_reducible rfl | exact ble_ | refine AV.int_congr ?_ | refine AV.list_congr ?_ | refine AV.bsl_congr ?_ ?_
  ·rw [wrap64 (by omega) (by omega)]; rfl
  ·have := part_set (z := [.val (.int .i64 0), .str [], .val (.slice none 0 0)]) (sz := 3) rfl (tks_sz tAction l 0) (tks_get tAction 0 (tAction_get (l := l) (i := i) (by omega)))
   rw [Nat.zero_add] at this
   simp only [List.set_cons_zero, List.take_succ_cons, List.take_zero, List.length_cons, List.length_nil, Int.toNat_natCast, this]
  ·show frs tAction (l.take i) ++ tAction.fr (l.getD (i : Int).toNat default) = frs tAction (l.take (i + 1))
   rw [Int.toNat_natCast, take_succ' default (by omega), frs_append]; simp [frs]
 ·rename_i h1
  rw [length_rows] at h1
  conv => whnf
  have : i = l.length := by omega
  subst this
  have hall := part_all [.val (.int .i64 0), .str [], .val (.slice none 0 0)] (tks tAction l 0)
  rw [length_tks] at hall
  refine FreezeD.flat (Freeze.mk (tks tAction l 0) _ 123 3 rfl hall (length_tks _ _ _) (tks_sz tAction l 0) (fun c hc => ?_) ?_)
  ·rw [hall] at hc; exact tks_nr tAction l 0 c hc
  ·refine Final.mk ?_ ?_
   ·rw [List.take_length, Nat.zero_add]
   ·rw [List.take_length]; rfl
theorem szActionS.ret (l : List VAction) (a : Int) (h0 : 0 ≤ a) (ha : a ≤ 1048576) (hb : tActions.bd l) :
 szActionS.Ret [.list none (rows tAction l), .val (.int .i64 a)] (.val (.int .i64 (left a (tActions.size l)))) [] := by
 refine szActionS.ir.of rfl ?_
 obtain ⟨hl, hb⟩ := hb
 have hw : IntKind.i64.wrap (a - ((rows tAction l).length : Int)) = a - l.length := by rw [length_rows]; exact wrap64 (by omega) (by omega)
 have hz := tActions_sz l
 repeat' first
  | (conv => whnf
     first | refine Need.mk rfl ?_ | refine Fork.dec (fun _ => ?_) (fun _ => ?_) | refine FinVal.keep ?_ | refine Final.mk ?_ rfl)
  | refine AV.int_congr ?_
 ·rename_i h
  rw [hw] at h
  rw [left, if_pos (by omega)]
 rename_i h
 rw [hw] at h
 skip
 refine ALoop.mk Nat (fun i => ⟨[(0, .list none (rows tAction l)), (1, .val (.int .i64 (a - l.length - listSize tAction (l.take i)))), (5, .val (.int .i64 i))], [], []⟩) (fun i => i ≤ l.length ∧ (0 : Int) ≤ a - l.length - listSize tAction (l.take i)) (fun i => l.length - i) ⟨0, ⟨Nat.zero_le _, by simp [listSize]; omega⟩, ?_⟩ (fun i hi => ?_)
 ·repeat' first
   | exact trivial | refine wl_ ?_ ?_ ?_ ?_ | refine And.intro ?_ ?_ | with_reducible rfl | exact ble_ | refine AV.int_congr ?_ | refine AV.list_congr ?_ | (apply rfl)
  rw [hw]; simp [listSize]
 obtain ⟨hp1, hp2⟩ := hi
 have hle := listSize_take_le tAction l (i + 1)
 have hbi : i < l.length → tAction.bd (l.getD i default) := fun h => hb _ (List.mem_of_getElem? (tAction_get h))
 have hsz : i < l.length → listSize tAction (l.take (i + 1)) = listSize tAction (l.take i) + tAction.size (l.getD i default) := fun h => listSize_take_succ tAction (tAction_get h)
 repeat' first
  | (conv => whnf
     first | refine Need.mk rfl ?_ | refine nb_ ?_ | refine Ix.mapF (fun _ => rfl) ?_ | refine Fork.dec (fun _ => ?_) (fun _ => ?_) | refine Round.mk ?_ | refine FinVal.keep ?_ | refine Final.mk ?_ rfl | refine ACall.scalA _ _ (szAction.ret _ _ ?_ ?_ ?_) rfl ?_)
  | refine AV.int_congr ?_
 ·exact hp2
 ·omega
 ·rename_i h1
  rw [length_rows] at h1
  rw [Int.toNat_natCast]; exact hbi (by omega)
 ·rename_i h1 h2
  rw [length_rows] at h1
  rw [Int.toNat_natCast] at h2
  have := hsz (by omega)
  unfold left at h2 ⊢
  split at h2
  ·rw [if_pos (by omega)]
  ·omega
 ·rename_i h1 h2
  rw [length_rows] at h1
  rw [Int.toNat_natCast] at h2
  have := hsz (by omega)
  have e : left (a - ↑l.length - ↑(listSize tAction (l.take i))) (tAction.size (l.getD i default)) = a - ↑l.length - ↑(listSize tAction (l.take (i + 1))) := by
   unfold left at h2 ⊢
   split at h2
   ·omega
   ·rw [if_neg ‹_›]; omega
  refine ⟨i + 1, ⟨by omega, ?_⟩, ?_, by omega⟩
  ·rw [← e]; omega
  ·repeat' first
    | exact trivial | refine wl_ ?_ ?_ ?_ ?_ | refine And.intro ?_ ?_ | with_reducible rfl | exact ble_ | refine AV.int_congr ?_ | refine AV.list_congr ?_ | (apply rfl)
   ·rw [Int.toNat_natCast]; exact e
   ·rw [wrap64 (by omega) (by omega)]; rfl
 ·rename_i h1
  rw [length_rows] at h1
  rw [List.take_of_length_le (by omega)] at hp2 ⊢
  rw [left, if_neg (by omega)]; omega
theorem eqActionS.big (l m : List VAction) (h : tActions.size l ≤ 1099511627775) : eqActionS.Ret [.list none (rows tAction l), .list none (rows tAction m)] (.val (.bool (decide (l = m)))) [] := by
 refine eqActionS.ir.of rfl ?_
 rw [tActions_sz] at h
 repeat' first
  | (conv => whnf
     first | refine Need.mk rfl ?_ | refine Fork.bne (fun _ => ?_) (fun _ => ?_) | refine FinVal.keep ?_ | refine Final.mk ?_ rfl)
  | refine AV.bool_congr ?_
 ·rename_i h
  rw [length_rows, length_rows] at h
  have h3 : ¬ l = m := fun e => h (by rw [e])
  simp [h3]
 rename_i h
 rw [length_rows, length_rows] at h
 have h : l.length = m.length := by omega
 skip
 refine ALoop.mk Nat (fun i => ⟨[(0, .list none (rows tAction l)), (1, .list none (rows tAction m)), (5, .val (.int .i64 i))], [], []⟩) (fun i => i ≤ l.length ∧ l.take i = m.take i) (fun i => l.length - i) ⟨0, ⟨Nat.zero_le _, rfl⟩, ?_⟩ (fun i hi => ?_)
 ·repeat' first
   | exact trivial | refine wl_ ?_ ?_ ?_ ?_ | refine And.intro ?_ ?_ | with_reducible rfl | exact ble_ | refine AV.int_congr ?_ | refine AV.list_congr ?_ | (apply rfl)
 repeat' first
  | (conv => whnf
     first | refine Need.mk rfl ?_ | refine nb_ ?_ | refine Ix.mapF (fun _ => rfl) ?_ | refine Fork.dec (fun _ => ?_) (fun _ => ?_) | refine Fork.neg (fun _ => ?_) (fun _ => ?_) | refine Round.mk ?_ | refine FinVal.keep ?_ | refine Final.mk ?_ rfl | refine AQCall.mkA _ _ (fun hg => eqAction.big _ _ ?_) rfl ?_)
  | refine AV.bool_congr ?_
 ·rename_i h1
  rw [length_rows] at h1
  have := listSize_mem tAction (List.mem_of_getElem? (tAction_get (l := l) (i := i) (by omega)))
  rw [Int.toNat_natCast]; omega
 ·rename_i h1 h2
  have h3 : ¬ l = m := fun e => of_decide_eq_false h2 (by rw [e])
  simp [h3]
 ·rename_i h1 h2
  rw [length_rows] at h1
  rw [Int.toNat_natCast] at h2
  refine ⟨i + 1, ⟨by omega, ?_⟩, ?_, by omega⟩
  ·rw [take_succ' default (by omega), take_succ' (l := m) default (by omega), hi.2, of_decide_eq_true h2]
  ·repeat' first
    | exact trivial | refine wl_ ?_ ?_ ?_ ?_ | refine And.intro ?_ ?_ | with_reducible rfl | exact ble_ | refine AV.int_congr ?_ | refine AV.list_congr ?_ | (apply rfl)
   rw [wrap64 (by omega) (by omega)]; rfl
 ·rename_i h1
  rw [length_rows] at h1
  have h2 := hi.2
  rw [List.take_of_length_le (by omega), List.take_of_length_le (by omega)] at h2
  simp [h2]
theorem markActionS.tn (l : List VAction) (k : Nat) (hs : tActions.size l ≤ 1099511627775) (hk : k + cn (.l 123 3 (l.map tAction.q)) ≤ 1099511627775) :
 markActionS.Turn (gb (.l 123 3 (l.map tAction.q)) 0) [gv (.l 123 3 (l.map tAction.q)) 0, .val (.int .i64 k)] (.val (.int .i64 ((k + cn (.l 123 3 (l.map tAction.q)) : Nat)))) (gb (mk (.l 123 3 (l.map tAction.q)) k) 0) := by
 refine markActionS.ofT rfl rfl (by rw [length_gb, nb_mk]) ?_
 obtain ⟨cs, hcs⟩ : ∃ cs, cs = (l.map tAction.q).flatten := ⟨_, rfl⟩
 have hlen : cs.length = l.length * 3 := by rw [hcs]; exact flat_len _ 3 tAction.hq l
 have hc0 : ∀ i, i < l.length → cs[i * 3 + 0]? = some (.v (.int .i64 (l.getD i default).1)) := fun i hi => by rw [hcs]; exact cell_at tAction.q 3 tAction.hq hi rfl
 have hc1 : ∀ i, i < l.length → cs[i * 3 + 1]? = some (.s (l.getD i default).2.1) := fun i hi => by rw [hcs]; exact cell_at tAction.q 3 tAction.hq hi rfl
 have hc2 : ∀ i, i < l.length → cs[i * 3 + 2]? = some (.l 9 1 ((l.getD i default).2.2.map Ty.str.q)) := fun i hi => by rw [hcs]; exact cell_at tAction.q 3 tAction.hq hi rfl
 rw [gb_mk_l0, gb_l0, cn_l, gv, List.length_map, ← hcs]
 rw [cn_l, ← hcs] at hk
 clear hcs
 skip
 refine ALoop.mk Nat (fun i => ⟨[(0, .bsl 0 l.length), (1, .val (.int .i64 ((k + cnC (cs.take (i * 3)) : Nat)))), (5, .val (.int .i64 i))], .cells (.row 123 3) (gvL (st cs k (i * 3)) 1) :: gbL (st cs k (i * 3)) 1, []⟩) (fun i => i ≤ l.length) (fun i => l.length - i) ⟨0, Nat.zero_le _, ?_⟩ (fun i hi => ?_)
 ·refine weak_st ⟨rfl, ?_, rfl, trivial⟩ ?_ ?_ rfl ?_
  ·rw [Nat.zero_mul]; rfl
  ·rw [Nat.zero_mul, st_zero]
  ·rw [Nat.zero_mul, st_zero]
  ·rw [Nat.zero_mul, st_zero, List.length_cons]; exact Nat.le_refl _
 have hle := cn_take_le cs (i * 3)
 rw [tActions_sz] at hs
 rcases Nat.lt_or_ge i l.length with hlt | hge
 rotate_left
 ·have hiw : i * 3 = cs.length := by omega
  repeat' first
   | (conv => whnf
      first | refine Need.mk rfl ?_ | refine Fork.decNo (by omega) ?_ | refine forceBx_of ?_ | refine FinalT.mk ?_ ?_)
   | refine AV.int_congr ?_
  ·rw [hiw, List.take_length]
  ·rw [hiw, st_all cs k rfl]; exact take_all (by rw [List.length_cons, List.length_cons, length_gbL, length_gbL, nbL_mkC]; exact Nat.le_refl _)
 have hi1 : (i + 1) * 3 = i * 3 + 3 := by omega
 have hsz := tAction_le hlt
 have hz17 := tAction_size (l.getD i default)
 have hz18 := tPattern_size (l.getD i default).2
 have l0 := cn_take_le cs (i * 3 + 1)
 have n0 : cnC (cs.take (i * 3 + 1)) = cnC (cs.take (i * 3)) + 1 := cn_succ (hc0 i hlt)
 have w0 : IntKind.i64.wrap (((k + cnC (cs.take (i * 3)) : Nat) : Int) + 1) = ((k + cnC (cs.take (i * 3 + 1)) : Nat) : Int) := by rw [wrap64 (by omega) (by omega)]; omega
 have b0 : gbL (st cs k (i * 3 + 1)) 1 = gbL (st cs k (i * 3)) 1 := gbL_st k 1 (hc0 i hlt) rfl
 have g0 : gvL (st cs k (i * 3 + 1)) 1 = (gvL (st cs k (i * 3)) 1).set (i * 3) (.val (.int .i64 (((k + cnC (cs.take (i * 3)) : Nat) : Int)))) := gvL_st k 1 (hc0 i hlt)
 have l1 := cn_take_le cs (i * 3 + 2)
 have n1 : cnC (cs.take (i * 3 + 2)) = cnC (cs.take (i * 3 + 1)) + 1 := cn_succ (hc1 i hlt)
 have w1 : IntKind.i64.wrap (IntKind.i64.wrap (((k + cnC (cs.take (i * 3)) : Nat) : Int) + 1) + 1) = ((k + cnC (cs.take (i * 3 + 2)) : Nat) : Int) := by rw [w0, wrap64 (by omega) (by omega)]; omega
 have b1 : gbL (st cs k (i * 3 + 2)) 1 = gbL (st cs k (i * 3 + 1)) 1 := gbL_st k 1 (hc1 i hlt) rfl
 have g1 : gvL (st cs k (i * 3 + 2)) 1 = (gvL (st cs k (i * 3 + 1)) 1).set (i * 3 + 1) (.str (markF (k + cnC (cs.take (i * 3 + 1))))) := gvL_st k 1 (hc1 i hlt)
 repeat' first
  | (conv => whnf
     first | refine Need.mk rfl ?_ | refine Need.fin ?_ | refine Need.mk ⟨rfl, by simp only [length_setAt, List.length_set, length_gvL, length_st, Int.toNat_natCast]; omega⟩ ?_ | refine Fork.decYes (by omega) ?_ | refine forceBx_of ?_)
 conv => whnf
 refine ACall.scal [.val (.int .i64 ((k + cnC (cs.take (i * 3 + 1)) : Nat)))] _ (markText.ret (k + cnC (cs.take (i * 3 + 1))) (by omega)) rfl (.cons (SeesB.of0 (by rw [w0]; exact Sees0.val _)) .nil) ?_
 repeat' first
  | (conv => whnf
     first | refine Need.mk rfl ?_ | refine Need.fin ?_ | refine Need.mk ⟨rfl, by simp only [length_setAt, List.length_set, length_gvL, length_st, Int.toNat_natCast]; omega⟩ ?_)
 have l2 := cn_take_le cs (i * 3 + 3)
 have n2 : cnC (cs.take (i * 3 + 3)) = cnC (cs.take (i * 3 + 2)) + cn (.l 9 1 ((l.getD i default).2.2.map Ty.str.q)) := cn_succ (hc2 i hlt)
 have g2 : gvL (st cs k (i * 3 + 3)) 1 = gvL (st cs k (i * 3 + 2)) 1 := gvL_stL k 1 (hc2 i hlt)
 have t2 : markStringS.Turn (gb (.l 9 1 ((l.getD i default).2.2.map Ty.str.q)) 0) [gv (.l 9 1 ((l.getD i default).2.2.map Ty.str.q)) 0, .val (.int .i64 ((k + cnC (cs.take (i * 3 + 2)) : Nat)))] (.val (.int .i64 ((k + cnC (cs.take (i * 3 + 3)) : Nat)))) (gb (mk (.l 9 1 ((l.getD i default).2.2.map Ty.str.q)) (k + cnC (cs.take (i * 3 + 2)))) 0) := by
  have h := markStringS.tn (l.getD i default).2.2 (k + cnC (cs.take (i * 3 + 2))) (by omega) (by omega)
  rw [Nat.add_assoc, ← n2] at h; exact h
 have d2 : (((gvL (st cs k (i * 3)) 1).set (i * 3) (.val (.int .i64 (((k + cnC (cs.take (i * 3)) : Nat) : Int))))).set (i * 3 + 1) (.str (markF (k + cnC (cs.take (i * 3 + 1)))))).drop (i * 3 + 2) = gv (.l 9 1 ((l.getD i default).2.2.map Ty.str.q)) (1 + nbL (cs.take (i * 3 + 2))) :: gvL (cs.drop (i * 3 + 2 + 1)) (1 + nbL (cs.take (i * 3 + 2)) + nb (.l 9 1 ((l.getD i default).2.2.map Ty.str.q))) := by
  have h := ld_st k 1 (hc2 i hlt)
  try simp only [Nat.add_zero] at h
  rw [g1, g0] at h
  exact h
 conv => whnf
 refine takeAV_one (n := 1) _ _ d2 ?_
 conv => whnf
 refine ACall.turn' (.cells (.row 123 3) (((gvL (st cs k (i * 3)) 1).set (i * 3) (.val (.int .i64 (((k + cnC (cs.take (i * 3)) : Nat) : Int))))).set (i * 3 + 1) (.str (markF (k + cnC (cs.take (i * 3 + 1)))))) :: gbL (st cs k (i * 3 + 3)) 1) [gv (.l 9 1 ((l.getD i default).2.2.map Ty.str.q)) 0, .val (.int .i64 ((k + cnC (cs.take (i * 3 + 2)) : Nat)))] (.l 9 1 ((l.getD i default).2.2.map Ty.str.q)) (mk (.l 9 1 ((l.getD i default).2.2.map Ty.str.q)) (k + cnC (cs.take (i * 3 + 2)))) _ (.cells (.row 123 3) (((gvL (st cs k (i * 3)) 1).set (i * 3) (.val (.int .i64 (((k + cnC (cs.take (i * 3)) : Nat) : Int))))).set (i * 3 + 1) (.str (markF (k + cnC (cs.take (i * 3 + 1)))))) :: gbL (mkC (cs.take (i * 3 + 2)) k) 1) (gbL (cs.drop (i * 3 + 2 + 1)) (1 + nbL (cs.take (i * 3 + 2)) + nb (.l 9 1 ((l.getD i default).2.2.map Ty.str.q)))) t2 rfl ?_ (nb_mk _ _) (.cons (.inl ⟨by rw [pre_st]; rfl, rfl⟩) (.cons (.inr (by rw [w1]; exact Sees0.val _)) .nil)) ?_ ?_
 ·rw [← b0]; rw [← b1]; exact bx_st k (hc2 i hlt) _
 ·exact bx_st' k (hc2 i hlt) _
 repeat' first
  | (conv => whnf
     first | refine Need.mk rfl ?_ | refine Round.mk ?_)
 refine ⟨i + 1, by omega, weak_st ⟨rfl, AV.int_congr ?_, AV.int_congr ?_, trivial⟩ (congrArg (ABox.cells (.row 123 3)) ?_) ?_ rfl ?_, by omega⟩
 ·rw [hi1]
 ·rw [wrap64 (by omega) (by omega)]; rfl
 ·rw [hi1, g2, g1, g0]
  try rfl
 ·rw [hi1]
 ·simp only [hi1, List.length_cons, length_gbL, nbL_st, Nat.le_refl]
open Abs
abbrev VRule := Str × Int × List VCond × List VAction
instance : DecidableEq VRule := instDecidableEqProd
def tRule : Ty VRule := Ty.pair Ty.str (Ty.pair Ty.int (Ty.pair tConds tActions))
theorem tRule_size (a : VRule) : tRule.size a = a.1.length + (0 + (tConds.size a.2.2.1 + tActions.size a.2.2.2)) := rfl
theorem tRule_cn : CnB tRule 10 := CnB.pair CnB.str (CnB.pair CnB.int (CnB.pair (CnB.list tCond_cn _) (CnB.list tAction_cn _)))
def tRules : Ty (List VRule) := Ty.list 34 tRule
theorem tRules_sz (l : List VRule) : tRules.size l = l.length + listSize tRule l := rfl
theorem tRule_get {l : List VRule} {i : Nat} (hi : i < l.length) : l[i]? = some (l.getD i default) := by simp [List.getD, hi]
theorem tRule_le {l : List VRule} {i : Nat} (hi : i < l.length) : tRule.size (l.getD i default) ≤ listSize tRule l := listSize_mem tRule (List.mem_of_getElem? (tRule_get hi))
theorem Abs.ACall.mk_Rule {C : Con} {lend : Bool} {f : Nat} {vs : List AV} {b : List ABox} {fr : Fr} {k : AV → List ABox → Fr → Prop} (ys : List AV) (a : VRule) (h : C.ret f ys (.agg (tRule.tk a 0)) (tRule.fr a)) (hv : SeesL Sees0 vs ys)
 (hk : k (.agg (tRule.tk a fr.length)) b (fr ++ tRule.fr a)) : ACall C lend f vs b fr k := ACall.mkA tRule ys a h hv hk
theorem toRule.ret (a : VRule) (h : tRule.size a ≤ 1048576) : toRule.Ret [.agg (oldL (tRule.q a))] (.agg (tRule.tk a 0)) (tRule.fr a) := by
 refine toRule.ir.of rfl ?_
 rw [tRule_size] at h
 repeat' first
  | (conv => whnf
     first | refine Need.mk ⟨rfl, Nat.le_of_ble_eq_true rfl⟩ ?_ | refine nb_ ?_ | refine FinAgg.keep ?_ | refine Final.mk ?_ rfl | refine ACall.mk_CondS _ _ (toCondS.ret _ ?_) (by repeat' first | exact SeesL.nil | refine SeesL.cons ?_ ?_ | exact SeesB.of0 (Sees0.val _) | exact SeesB.of0 (Sees0.str _) | exact SeesB.of0 (Sees0.olds _ _) | exact SeesB.of0 (Sees0.old _) | exact SeesB.of0 (Sees0.oldagg _) | exact SeesB.of0 Sees0.nil | exact Sees0.val _ | exact Sees0.str _ | exact Sees0.olds _ _ | exact Sees0.old _ | exact Sees0.oldagg _ | exact Sees0.nil | exact SeesB.of0 (Sees0.any _) | assumption | exact sees_gv _ _ _ (by assumption) (by first | assumption | exact BoxIn.last _ _ | exact BoxIn.more (BoxIn.last _ _) _) | refine SeesB.agg ?_ | refine Sees0.agg ?_ | exact SeesB.of0 (Sees0.clo SeesL.nil SeesL.nil) | exact Sees0.clo SeesL.nil SeesL.nil | exact SeesB.of0 (Sees0.list rfl) | exact Sees0.list rfl) ?_ | refine ACall.mk_ActionS _ _ (toActionS.ret _ ?_) (by repeat' first | exact SeesL.nil | refine SeesL.cons ?_ ?_ | exact SeesB.of0 (Sees0.val _) | exact SeesB.of0 (Sees0.str _) | exact SeesB.of0 (Sees0.olds _ _) | exact SeesB.of0 (Sees0.old _) | exact SeesB.of0 (Sees0.oldagg _) | exact SeesB.of0 Sees0.nil | exact Sees0.val _ | exact Sees0.str _ | exact Sees0.olds _ _ | exact Sees0.old _ | exact Sees0.oldagg _ | exact Sees0.nil | exact SeesB.of0 (Sees0.any _) | assumption | exact sees_gv _ _ _ (by assumption) (by first | assumption | exact BoxIn.last _ _ | exact BoxIn.more (BoxIn.last _ _) _) | refine SeesB.agg ?_ | refine Sees0.agg ?_ | exact SeesB.of0 (Sees0.clo SeesL.nil SeesL.nil) | exact Sees0.clo SeesL.nil SeesL.nil | exact SeesB.of0 (Sees0.list rfl) | exact Sees0.list rfl) ?_)
 all_goals first
  | omega
  | (refine congrArg AV.agg ?_
     repeat' first
      | refine cons_congr ?_ ?_
      | refine tok_congr ?_ ?_
      | refine congrArg (tks _ _) ?_
      | rfl
     all_goals (simp [Ty.pair, Ty.str, Ty.int, Ty.bool, Nat.add_assoc]; done))
  | (simp [tRule, Ty.pair, Ty.str, Ty.int, Ty.bool, List.append_assoc, Nat.add_assoc]; done)
theorem szRule.ret (f : VRule) (a : Int) (h0 : 0 ≤ a) (ha : a ≤ 1048576) (hb : tRule.bd f) :
 szRule.Ret [.agg (oldL (tRule.q f)), .val (.int .i64 a)] (.val (.int .i64 (left a (tRule.size f)))) [] := by
 refine szRule.ir.of rfl ?_
 have hz := tRule_size f
 obtain ⟨hb0, hb1, hb2, hb3⟩ := hb
 have hb0 : f.1.length ≤ 9223372036854775807 := hb0
 by_cases c1 : a < (f.1.length : Int)
 ·have e0 : IntKind.i64.wrap (a - (f.1.length : Int)) = a - (f.1.length : Int) := by rw [wrap64 (by omega) (by omega)]
  repeat' first
   | (conv => whnf
      first | refine Need.mk rfl ?_ | refine Fork.decYes (by omega) ?_ | refine FinVal.keep ?_ | refine Final.mk ?_ rfl)
   | refine AV.int_congr ?_
  all_goals first
   | assumption
   | omega
   | exact left_eq (by omega)
 by_cases c2 : a < (f.1.length : Int) + (tConds.size f.2.2.1 : Int)
 ·have e0 : IntKind.i64.wrap (a - (f.1.length : Int)) = a - (f.1.length : Int) := by rw [wrap64 (by omega) (by omega)]
  have e1 : left (IntKind.i64.wrap (a - (f.1.length : Int))) (tConds.size f.2.2.1) = -1 := by rw [e0, left, if_pos (by omega)]
  repeat' first
   | (conv => whnf
      first | refine Need.mk rfl ?_ | refine Fork.decYes (by omega) ?_ | refine Fork.decNo (by omega) ?_ | refine FinVal.keep ?_ | refine Final.mk ?_ rfl | refine ACall.scalA _ _ (szCondS.ret _ _ ?_ ?_ ?_) rfl ?_)
   | refine AV.int_congr ?_
  all_goals first
   | assumption
   | omega
   | exact left_eq (by omega)
 by_cases c3 : a < (f.1.length : Int) + (tConds.size f.2.2.1 : Int) + (tActions.size f.2.2.2 : Int)
 ·have e0 : IntKind.i64.wrap (a - (f.1.length : Int)) = a - (f.1.length : Int) := by rw [wrap64 (by omega) (by omega)]
  have e1 : left (IntKind.i64.wrap (a - (f.1.length : Int))) (tConds.size f.2.2.1) = a - (f.1.length : Int) - (tConds.size f.2.2.1 : Int) := by rw [e0, left, if_neg (by omega)]
  have e2 : left (left (IntKind.i64.wrap (a - (f.1.length : Int))) (tConds.size f.2.2.1)) (tActions.size f.2.2.2) = -1 := by rw [e1, left, if_pos (by omega)]
  repeat' first
   | (conv => whnf
      first | refine Need.mk rfl ?_ | refine Fork.decYes (by omega) ?_ | refine Fork.decNo (by omega) ?_ | refine FinVal.keep ?_ | refine Final.mk ?_ rfl | refine ACall.scalA _ _ (szCondS.ret _ _ ?_ ?_ ?_) rfl ?_ | refine ACall.scalA _ _ (szActionS.ret _ _ ?_ ?_ ?_) rfl ?_)
   | refine AV.int_congr ?_
  all_goals first
   | assumption
   | omega
   | exact left_eq (by omega)
 have e0 : IntKind.i64.wrap (a - (f.1.length : Int)) = a - (f.1.length : Int) := by rw [wrap64 (by omega) (by omega)]
 have e1 : left (IntKind.i64.wrap (a - (f.1.length : Int))) (tConds.size f.2.2.1) = a - (f.1.length : Int) - (tConds.size f.2.2.1 : Int) := by rw [e0, left, if_neg (by omega)]
 have e2 : left (left (IntKind.i64.wrap (a - (f.1.length : Int))) (tConds.size f.2.2.1)) (tActions.size f.2.2.2) = a - (f.1.length : Int) - (tConds.size f.2.2.1 : Int) - (tActions.size f.2.2.2 : Int) := by rw [e1, left, if_neg (by omega)]
 repeat' first
  | (conv => whnf
     first | refine Need.mk rfl ?_ | refine Fork.decNo (by omega) ?_ | refine FinVal.keep ?_ | refine Final.mk ?_ rfl | refine ACall.scalA _ _ (szCondS.ret _ _ ?_ ?_ ?_) rfl ?_ | refine ACall.scalA _ _ (szActionS.ret _ _ ?_ ?_ ?_) rfl ?_)
  | refine AV.int_congr ?_
 all_goals first
  | assumption
  | omega
  | exact left_eq (by omega)
theorem eqRule.big (f g : VRule) (h : tRule.size f ≤ 1099511627775) : eqRule.Ret [.agg (oldL (tRule.q f)), .agg (oldL (tRule.q g))] (.val (.bool (decide (f = g)))) [] := by
 refine eqRule.ir.of rfl ?_
 have hz := tRule_size f
 repeat' first
  | (conv => whnf
     first | refine Need.mk rfl ?_ | refine Fork.bne (fun _ => ?_) (fun _ => ?_) | refine Fork.sne (fun _ => ?_) (fun _ => ?_) | refine Fork.neg (fun _ => ?_) (fun _ => ?_) | refine FinVal.keep ?_ | refine Final.mk ?_ rfl | refine ACall.scalA _ _ (eqCondS.big _ _ ?_) rfl ?_ | refine ACall.scalA _ _ (eqActionS.big _ _ ?_) rfl ?_)
  | refine AV.bool_congr ?_
 all_goals first
  | omega
  | (simp only [tStrs_size, tInts_size] at *; omega)
  | (obtain ⟨x0, x1, x2, x3⟩ := f; obtain ⟨y0, y1, y2, y3⟩ := g; simp_all)
theorem toRuleS.ret (l : List VRule) (h : tRules.size l ≤ 1048576) : toRuleS.Ret [.list none (rows tRule l)] (.list (some (0 + (frs tRule l).length)) (tks tRule l 0)) (tRules.fr l) := by
 refine toRuleS.ir.of rfl ?_
 rw [tRules_sz] at h
 repeat' first
  | (conv => whnf
     first | refine Need.fin ?_)
 refine ALoop.mk Nat (fun i => ⟨[(0, .list none (rows tRule l)), (3, .bsl 0 l.length), (4, .val (.int .i64 i))], [.cells (.row 34 4) (part [.str [], .val (.int .i64 0), .val (.slice none 0 0), .val (.slice none 0 0)] (tks tRule l 0) i)], frs tRule (l.take i)⟩) (fun i => i ≤ l.length) (fun i => l.length - i) ⟨0, Nat.zero_le _, ?_⟩ (fun i hi => ?_)
 ·repeat' first
   | exact trivial | refine wl_ ?_ ?_ ?_ ?_ | refine And.intro ?_ ?_ | with_reducible rfl | exact ble_ | refine AV.int_congr ?_ | refine AV.list_congr ?_ | refine AV.bsl_congr ?_ ?_ | (apply rfl)
  ·simp
  ·simp only [List.nil_append, List.length_cons, List.length_nil, List.take_succ_cons, List.take_zero]
   rw [part_made (xs := tks tRule l 0) (sz := 4) rfl (by decide) (by simp [length_tks])]; rfl
 repeat' first
  | (conv => whnf
     first | refine Need.mk rfl ?_ | refine nb_ ?_ | refine Need.fin ?_ | refine Need.mk ?_ ?_ | refine Ix.mapF (fun _ => rfl) ?_ | refine Fork.dec (fun _ => ?_) (fun _ => ?_) | refine Round.mk ?_ | refine ACall.mk_Rule _ _ (toRule.ret _ ?_) (by repeat' first | exact SeesL.nil | refine SeesL.cons ?_ ?_ | exact SeesB.of0 (Sees0.val _) | exact SeesB.of0 (Sees0.str _) | exact SeesB.of0 (Sees0.olds _ _) | exact SeesB.of0 (Sees0.old _) | exact SeesB.of0 (Sees0.oldagg _) | exact SeesB.of0 Sees0.nil | exact Sees0.val _ | exact Sees0.str _ | exact Sees0.olds _ _ | exact Sees0.old _ | exact Sees0.oldagg _ | exact Sees0.nil | exact SeesB.of0 (Sees0.any _) | assumption | exact sees_gv _ _ _ (by assumption) (by first | assumption | exact BoxIn.last _ _ | exact BoxIn.more (BoxIn.last _ _) _) | refine SeesB.agg ?_ | refine Sees0.agg ?_ | exact SeesB.of0 (Sees0.clo SeesL.nil SeesL.nil) | exact Sees0.clo SeesL.nil SeesL.nil | exact SeesB.of0 (Sees0.list rfl) | exact Sees0.list rfl) ?_)
 ·rename_i h1
  rw [length_rows] at h1
  have := listSize_mem tRule (List.mem_of_getElem? (tRule_get (l := l) (i := i) (by omega)))
  rw [Int.toNat_natCast]; omega
 ·rename_i h1
  rw [length_rows] at h1
  rw [part_len (sz := 4) rfl (tks_sz tRule l 0) (by rw [length_tks]; exact hi), Int.toNat_natCast, length_tks]
  exact ⟨rfl, by omega⟩
 ·rename_i h1
  rw [length_rows] at h1
  refine ⟨i + 1, by omega, ?_, by omega⟩
  repeat' first
   | exact trivial | refine wl_ ?_ ?_ ?_ ?_ | refine And.intro ?_ ?_ | with_reducible rfl | exact ble_ | refine AV.int_congr ?_ | refine AV.list_congr ?_ | refine AV.bsl_congr ?_ ?_
  ·rw [wrap64 (by omega) (by omega)]; rfl
  ·have := part_set (z := [.str [], .val (.int .i64 0), .val (.slice none 0 0), .val (.slice none 0 0)]) (sz := 4) rfl (tks_sz tRule l 0) (tks_get tRule 0 (tRule_get (l := l) (i := i) (by omega)))
   rw [Nat.zero_add] at this
   simp only [List.set_cons_zero, List.take_succ_cons, List.take_zero, List.length_cons, List.length_nil, Int.toNat_natCast, this]
  ·show frs tRule (l.take i) ++ tRule.fr (l.getD (i : Int).toNat default) = frs tRule (l.take (i + 1))
   rw [Int.toNat_natCast, take_succ' default (by omega), frs_append]; simp [frs]
 ·rename_i h1
  rw [length_rows] at h1
  conv => whnf
  have : i = l.length := by omega
  subst this
  have hall := part_all [.str [], .val (.int .i64 0), .val (.slice none 0 0), .val (.slice none 0 0)] (tks tRule l 0)
  rw [length_tks] at hall
  refine FreezeD.flat (Freeze.mk (tks tRule l 0) _ 34 4 rfl hall (length_tks _ _ _) (tks_sz tRule l 0) (fun c hc => ?_) ?_)
  ·rw [hall] at hc; exact tks_nr tRule l 0 c hc
  ·refine Final.mk ?_ ?_
   ·rw [List.take_length, Nat.zero_add]
   ·rw [List.take_length]; rfl
theorem toRuleS.own (l : List VRule) (h : tRules.size l ≤ 1048576) : toRuleS.Own [.list none (rows tRule l)] (.l 34 4 (l.map tRule.q)) :=
 Ty.ownV tRules (x := .l 34 4 (l.map tRule.q)) rfl rfl (toRuleS.ret l h)
theorem szRuleS.ret (l : List VRule) (a : Int) (h0 : 0 ≤ a) (ha : a ≤ 1048576) (hb : tRules.bd l) :
 szRuleS.Ret [.list none (rows tRule l), .val (.int .i64 a)] (.val (.int .i64 (left a (tRules.size l)))) [] := by
 refine szRuleS.ir.of rfl ?_
 obtain ⟨hl, hb⟩ := hb
 have hw : IntKind.i64.wrap (a - ((rows tRule l).length : Int)) = a - l.length := by rw [length_rows]; exact wrap64 (by omega) (by omega)
 have hz := tRules_sz l
 repeat' first
  | (conv => whnf
     first | refine Need.mk rfl ?_ | refine Fork.dec (fun _ => ?_) (fun _ => ?_) | refine FinVal.keep ?_ | refine Final.mk ?_ rfl)
  | refine AV.int_congr ?_
 ·rename_i h
  rw [hw] at h
  rw [left, if_pos (by omega)]
 rename_i h
 rw [hw] at h
 skip
 refine ALoop.mk Nat (fun i => ⟨[(0, .list none (rows tRule l)), (1, .val (.int .i64 (a - l.length - listSize tRule (l.take i)))), (5, .val (.int .i64 i))], [], []⟩) (fun i => i ≤ l.length ∧ (0 : Int) ≤ a - l.length - listSize tRule (l.take i)) (fun i => l.length - i) ⟨0, ⟨Nat.zero_le _, by simp [listSize]; omega⟩, ?_⟩ (fun i hi => ?_)
 ·repeat' first
   | exact trivial | refine wl_ ?_ ?_ ?_ ?_ | refine And.intro ?_ ?_ | with_reducible rfl | exact ble_ | refine AV.int_congr ?_ | refine AV.list_congr ?_ | (apply rfl)
  rw [hw]; simp [listSize]
 obtain ⟨hp1, hp2⟩ := hi
 have hle := listSize_take_le tRule l (i + 1)
 have hbi : i < l.length → tRule.bd (l.getD i default) := fun h => hb _ (List.mem_of_getElem? (tRule_get h))
 have hsz : i < l.length → listSize tRule (l.take (i + 1)) = listSize tRule (l.take i) + tRule.size (l.getD i default) := fun h => listSize_take_succ tRule (tRule_get h)
 repeat' first
  | (conv => whnf
     first | refine Need.mk rfl ?_ | refine nb_ ?_ | refine Ix.mapF (fun _ => rfl) ?_ | refine Fork.dec (fun _ => ?_) (fun _ => ?_) | refine Round.mk ?_ | refine FinVal.keep ?_ | refine Final.mk ?_ rfl | refine ACall.scalA _ _ (szRule.ret _ _ ?_ ?_ ?_) rfl ?_)
  | refine AV.int_congr ?_
 ·exact hp2
 ·omega
 ·rename_i h1
  rw [length_rows] at h1
  rw [Int.toNat_natCast]; exact hbi (by omega)
 ·rename_i h1 h2
  rw [length_rows] at h1
  rw [Int.toNat_natCast] at h2
  have := hsz (by omega)
  unfold left at h2 ⊢
  split at h2
  ·rw [if_pos (by omega)]
  ·omega
 ·rename_i h1 h2
  rw [length_rows] at h1
  rw [Int.toNat_natCast] at h2
  have := hsz (by omega)
  have e : left (a - ↑l.length - ↑(listSize tRule (l.take i))) (tRule.size (l.getD i default)) = a - ↑l.length - ↑(listSize tRule (l.take (i + 1))) := by
   unfold left at h2 ⊢
   split at h2
   ·omega
   ·rw [if_neg ‹_›]; omega
  refine ⟨i + 1, ⟨by omega, ?_⟩, ?_, by omega⟩
  ·rw [← e]; omega
  ·repeat' first
    | exact trivial | refine wl_ ?_ ?_ ?_ ?_ | refine And.intro ?_ ?_ | with_reducible rfl | exact ble_ | refine AV.int_congr ?_ | refine AV.list_congr ?_ | (apply rfl)
   ·rw [Int.toNat_natCast]; exact e
   ·rw [wrap64 (by omega) (by omega)]; rfl
 ·rename_i h1
  rw [length_rows] at h1
  rw [List.take_of_length_le (by omega)] at hp2 ⊢
  rw [left, if_neg (by omega)]; omega
theorem eqRuleS.big (l m : List VRule) (h : tRules.size l ≤ 1099511627775) : eqRuleS.Ret [.list none (rows tRule l), .list none (rows tRule m)] (.val (.bool (decide (l = m)))) [] := by
 refine eqRuleS.ir.of rfl ?_
 rw [tRules_sz] at h
 repeat' first
  | (conv => whnf
     first | refine Need.mk rfl ?_ | refine Fork.bne (fun _ => ?_) (fun _ => ?_) | refine FinVal.keep ?_ | refine Final.mk ?_ rfl)
  | refine AV.bool_congr ?_
 ·rename_i h
  rw [length_rows, length_rows] at h
  have h3 : ¬ l = m := fun e => h (by rw [e])
  simp [h3]
 rename_i h
 rw [length_rows, length_rows] at h
 have h : l.length = m.length := by omega
 skip
 refine ALoop.mk Nat (fun i => ⟨[(0, .list none (rows tRule l)), (1, .list none (rows tRule m)), (5, .val (.int .i64 i))], [], []⟩) (fun i => i ≤ l.length ∧ l.take i = m.take i) (fun i => l.length - i) ⟨0, ⟨Nat.zero_le _, rfl⟩, ?_⟩ (fun i hi => ?_)
 ·repeat' first
   | exact trivial | refine wl_ ?_ ?_ ?_ ?_ | refine And.intro ?_ ?_ | with_reducible rfl | exact ble_ | refine AV.int_congr ?_ | refine AV.list_congr ?_ | (apply rfl)
 repeat' first
  | (conv => whnf
     first | refine Need.mk rfl ?_ | refine nb_ ?_ | refine Ix.mapF (fun _ => rfl) ?_ | refine Fork.dec (fun _ => ?_) (fun _ => ?_) | refine Fork.neg (fun _ => ?_) (fun _ => ?_) | refine Round.mk ?_ | refine FinVal.keep ?_ | refine Final.mk ?_ rfl | refine AQCall.mkA _ _ (fun hg => eqRule.big _ _ ?_) rfl ?_)
  | refine AV.bool_congr ?_
 ·rename_i h1
  rw [length_rows] at h1
  have := listSize_mem tRule (List.mem_of_getElem? (tRule_get (l := l) (i := i) (by omega)))
  rw [Int.toNat_natCast]; omega
 ·rename_i h1 h2
  have h3 : ¬ l = m := fun e => of_decide_eq_false h2 (by rw [e])
  simp [h3]
 ·rename_i h1 h2
  rw [length_rows] at h1
  rw [Int.toNat_natCast] at h2
  refine ⟨i + 1, ⟨by omega, ?_⟩, ?_, by omega⟩
  ·rw [take_succ' default (by omega), take_succ' (l := m) default (by omega), hi.2, of_decide_eq_true h2]
  ·repeat' first
    | exact trivial | refine wl_ ?_ ?_ ?_ ?_ | refine And.intro ?_ ?_ | with_reducible rfl | exact ble_ | refine AV.int_congr ?_ | refine AV.list_congr ?_ | (apply rfl)
   rw [wrap64 (by omega) (by omega)]; rfl
 ·rename_i h1
  rw [length_rows] at h1
  have h2 := hi.2
  rw [List.take_of_length_le (by omega), List.take_of_length_le (by omega)] at h2
  simp [h2]
theorem markRuleS.tn (l : List VRule) (k : Nat) (hs : tRules.size l ≤ 1099511627775) (hk : k + cn (.l 34 4 (l.map tRule.q)) ≤ 1099511627775) :
 markRuleS.Turn (gb (.l 34 4 (l.map tRule.q)) 0) [gv (.l 34 4 (l.map tRule.q)) 0, .val (.int .i64 k)] (.val (.int .i64 ((k + cn (.l 34 4 (l.map tRule.q)) : Nat)))) (gb (mk (.l 34 4 (l.map tRule.q)) k) 0) := by
 refine markRuleS.ofT rfl rfl (by rw [length_gb, nb_mk]) ?_
 obtain ⟨cs, hcs⟩ : ∃ cs, cs = (l.map tRule.q).flatten := ⟨_, rfl⟩
 have hlen : cs.length = l.length * 4 := by rw [hcs]; exact flat_len _ 4 tRule.hq l
 have hc0 : ∀ i, i < l.length → cs[i * 4 + 0]? = some (.s (l.getD i default).1) := fun i hi => by rw [hcs]; exact cell_at tRule.q 4 tRule.hq hi rfl
 have hc1 : ∀ i, i < l.length → cs[i * 4 + 1]? = some (.v (.int .i64 (l.getD i default).2.1)) := fun i hi => by rw [hcs]; exact cell_at tRule.q 4 tRule.hq hi rfl
 have hc2 : ∀ i, i < l.length → cs[i * 4 + 2]? = some (.l 116 5 ((l.getD i default).2.2.1.map tCond.q)) := fun i hi => by rw [hcs]; exact cell_at tRule.q 4 tRule.hq hi rfl
 have hc3 : ∀ i, i < l.length → cs[i * 4 + 3]? = some (.l 123 3 ((l.getD i default).2.2.2.map tAction.q)) := fun i hi => by rw [hcs]; exact cell_at tRule.q 4 tRule.hq hi rfl
 rw [gb_mk_l0, gb_l0, cn_l, gv, List.length_map, ← hcs]
 rw [cn_l, ← hcs] at hk
 clear hcs
 skip
 refine ALoop.mk Nat (fun i => ⟨[(0, .bsl 0 l.length), (1, .val (.int .i64 ((k + cnC (cs.take (i * 4)) : Nat)))), (5, .val (.int .i64 i))], .cells (.row 34 4) (gvL (st cs k (i * 4)) 1) :: gbL (st cs k (i * 4)) 1, []⟩) (fun i => i ≤ l.length) (fun i => l.length - i) ⟨0, Nat.zero_le _, ?_⟩ (fun i hi => ?_)
 ·refine weak_st ⟨rfl, ?_, rfl, trivial⟩ ?_ ?_ rfl ?_
  ·rw [Nat.zero_mul]; rfl
  ·rw [Nat.zero_mul, st_zero]
  ·rw [Nat.zero_mul, st_zero]
  ·rw [Nat.zero_mul, st_zero, List.length_cons]; exact Nat.le_refl _
 have hle := cn_take_le cs (i * 4)
 rw [tRules_sz] at hs
 rcases Nat.lt_or_ge i l.length with hlt | hge
 rotate_left
 ·have hiw : i * 4 = cs.length := by omega
  repeat' first
   | (conv => whnf
      first | refine Need.mk rfl ?_ | refine Fork.decNo (by omega) ?_ | refine forceBx_of ?_ | refine FinalT.mk ?_ ?_)
   | refine AV.int_congr ?_
  ·rw [hiw, List.take_length]
  ·rw [hiw, st_all cs k rfl]; exact take_all (by rw [List.length_cons, List.length_cons, length_gbL, length_gbL, nbL_mkC]; exact Nat.le_refl _)
 have hi1 : (i + 1) * 4 = i * 4 + 4 := by omega
 have hsz := tRule_le hlt
 have hz23 := tRule_size (l.getD i default)
 repeat' first
  | (conv => whnf
     first | refine Need.mk rfl ?_ | refine Fork.decYes (by omega) ?_ | refine forceBx_of ?_)
 have l0 := cn_take_le cs (i * 4 + 1)
 have n0 : cnC (cs.take (i * 4 + 1)) = cnC (cs.take (i * 4)) + 1 := cn_succ (hc0 i hlt)
 have w0 : IntKind.i64.wrap (((k + cnC (cs.take (i * 4)) : Nat) : Int) + 1) = ((k + cnC (cs.take (i * 4 + 1)) : Nat) : Int) := by rw [wrap64 (by omega) (by omega)]; omega
 have b0 : gbL (st cs k (i * 4 + 1)) 1 = gbL (st cs k (i * 4)) 1 := gbL_st k 1 (hc0 i hlt) rfl
 have g0 : gvL (st cs k (i * 4 + 1)) 1 = (gvL (st cs k (i * 4)) 1).set (i * 4) (.str (markF (k + cnC (cs.take (i * 4))))) := gvL_st k 1 (hc0 i hlt)
 conv => whnf
 refine ACall.scal [.val (.int .i64 ((k + cnC (cs.take (i * 4)) : Nat)))] _ (markText.ret (k + cnC (cs.take (i * 4))) (by omega)) rfl (.cons (SeesB.of0 (by exact Sees0.val _)) .nil) ?_
 repeat' first
  | (conv => whnf
     first | refine Need.mk rfl ?_ | refine Need.fin ?_ | refine Need.mk ⟨rfl, by simp only [length_setAt, List.length_set, length_gvL, length_st, Int.toNat_natCast]; omega⟩ ?_)
 have l1 := cn_take_le cs (i * 4 + 2)
 have n1 : cnC (cs.take (i * 4 + 2)) = cnC (cs.take (i * 4 + 1)) + 1 := cn_succ (hc1 i hlt)
 have w1 : IntKind.i64.wrap (IntKind.i64.wrap (((k + cnC (cs.take (i * 4)) : Nat) : Int) + 1) + 1) = ((k + cnC (cs.take (i * 4 + 2)) : Nat) : Int) := by rw [w0, wrap64 (by omega) (by omega)]; omega
 have b1 : gbL (st cs k (i * 4 + 2)) 1 = gbL (st cs k (i * 4 + 1)) 1 := gbL_st k 1 (hc1 i hlt) rfl
 have g1 : gvL (st cs k (i * 4 + 2)) 1 = (gvL (st cs k (i * 4 + 1)) 1).set (i * 4 + 1) (.val (.int .i64 (IntKind.i64.wrap (((k + cnC (cs.take (i * 4)) : Nat) : Int) + 1)))) := by rw [w0]; exact gvL_st k 1 (hc1 i hlt)
 have l2 := cn_take_le cs (i * 4 + 3)
 have n2 : cnC (cs.take (i * 4 + 3)) = cnC (cs.take (i * 4 + 2)) + cn (.l 116 5 ((l.getD i default).2.2.1.map tCond.q)) := cn_succ (hc2 i hlt)
 have g2 : gvL (st cs k (i * 4 + 3)) 1 = gvL (st cs k (i * 4 + 2)) 1 := gvL_stL k 1 (hc2 i hlt)
 have t2 : markCondS.Turn (gb (.l 116 5 ((l.getD i default).2.2.1.map tCond.q)) 0) [gv (.l 116 5 ((l.getD i default).2.2.1.map tCond.q)) 0, .val (.int .i64 ((k + cnC (cs.take (i * 4 + 2)) : Nat)))] (.val (.int .i64 ((k + cnC (cs.take (i * 4 + 3)) : Nat)))) (gb (mk (.l 116 5 ((l.getD i default).2.2.1.map tCond.q)) (k + cnC (cs.take (i * 4 + 2)))) 0) := by
  have h := markCondS.tn (l.getD i default).2.2.1 (k + cnC (cs.take (i * 4 + 2))) (by omega) (by omega)
  rw [Nat.add_assoc, ← n2] at h; exact h
 have d2 : (((gvL (st cs k (i * 4)) 1).set (i * 4) (.str (markF (k + cnC (cs.take (i * 4)))))).set (i * 4 + 1) (.val (.int .i64 (IntKind.i64.wrap (((k + cnC (cs.take (i * 4)) : Nat) : Int) + 1))))).drop (i * 4 + 2) = gv (.l 116 5 ((l.getD i default).2.2.1.map tCond.q)) (1 + nbL (cs.take (i * 4 + 2))) :: gvL (cs.drop (i * 4 + 2 + 1)) (1 + nbL (cs.take (i * 4 + 2)) + nb (.l 116 5 ((l.getD i default).2.2.1.map tCond.q))) := by
  have h := ld_st k 1 (hc2 i hlt)
  try simp only [Nat.add_zero] at h
  rw [g1, g0] at h
  exact h
 conv => whnf
 refine takeAV_one (n := 1) _ _ d2 ?_
 conv => whnf
 refine ACall.turn' (.cells (.row 34 4) (((gvL (st cs k (i * 4)) 1).set (i * 4) (.str (markF (k + cnC (cs.take (i * 4)))))).set (i * 4 + 1) (.val (.int .i64 (IntKind.i64.wrap (((k + cnC (cs.take (i * 4)) : Nat) : Int) + 1))))) :: gbL (st cs k (i * 4 + 3)) 1) [gv (.l 116 5 ((l.getD i default).2.2.1.map tCond.q)) 0, .val (.int .i64 ((k + cnC (cs.take (i * 4 + 2)) : Nat)))] (.l 116 5 ((l.getD i default).2.2.1.map tCond.q)) (mk (.l 116 5 ((l.getD i default).2.2.1.map tCond.q)) (k + cnC (cs.take (i * 4 + 2)))) _ (.cells (.row 34 4) (((gvL (st cs k (i * 4)) 1).set (i * 4) (.str (markF (k + cnC (cs.take (i * 4)))))).set (i * 4 + 1) (.val (.int .i64 (IntKind.i64.wrap (((k + cnC (cs.take (i * 4)) : Nat) : Int) + 1))))) :: gbL (mkC (cs.take (i * 4 + 2)) k) 1) (gbL (cs.drop (i * 4 + 2 + 1)) (1 + nbL (cs.take (i * 4 + 2)) + nb (.l 116 5 ((l.getD i default).2.2.1.map tCond.q)))) t2 rfl ?_ (nb_mk _ _) (.cons (.inl ⟨by rw [pre_st]; rfl, rfl⟩) (.cons (.inr (by rw [w1]; exact Sees0.val _)) .nil)) ?_ ?_
 ·rw [← b0]; rw [← b1]; exact bx_st k (hc2 i hlt) _
 ·exact bx_st' k (hc2 i hlt) _
 repeat' first
  | (conv => whnf
     first | refine Need.fin ?_)
 have l3 := cn_take_le cs (i * 4 + 4)
 have n3 : cnC (cs.take (i * 4 + 4)) = cnC (cs.take (i * 4 + 3)) + cn (.l 123 3 ((l.getD i default).2.2.2.map tAction.q)) := cn_succ (hc3 i hlt)
 have g3 : gvL (st cs k (i * 4 + 4)) 1 = gvL (st cs k (i * 4 + 3)) 1 := gvL_stL k 1 (hc3 i hlt)
 have t3 : markActionS.Turn (gb (.l 123 3 ((l.getD i default).2.2.2.map tAction.q)) 0) [gv (.l 123 3 ((l.getD i default).2.2.2.map tAction.q)) 0, .val (.int .i64 ((k + cnC (cs.take (i * 4 + 3)) : Nat)))] (.val (.int .i64 ((k + cnC (cs.take (i * 4 + 4)) : Nat)))) (gb (mk (.l 123 3 ((l.getD i default).2.2.2.map tAction.q)) (k + cnC (cs.take (i * 4 + 3)))) 0) := by
  have h := markActionS.tn (l.getD i default).2.2.2 (k + cnC (cs.take (i * 4 + 3))) (by omega) (by omega)
  rw [Nat.add_assoc, ← n3] at h; exact h
 have d3 : (((gvL (st cs k (i * 4)) 1).set (i * 4) (.str (markF (k + cnC (cs.take (i * 4)))))).set (i * 4 + 1) (.val (.int .i64 (IntKind.i64.wrap (((k + cnC (cs.take (i * 4)) : Nat) : Int) + 1))))).drop (i * 4 + 3) = gv (.l 123 3 ((l.getD i default).2.2.2.map tAction.q)) (1 + nbL (cs.take (i * 4 + 3))) :: gvL (cs.drop (i * 4 + 3 + 1)) (1 + nbL (cs.take (i * 4 + 3)) + nb (.l 123 3 ((l.getD i default).2.2.2.map tAction.q))) := by
  have h := ld_st k 1 (hc3 i hlt)
  try simp only [Nat.add_zero] at h
  rw [g2, g1, g0] at h
  exact h
 conv => whnf
 refine takeAV_one (n := 1) _ _ d3 ?_
 conv => whnf
 refine ACall.turn' (.cells (.row 34 4) (((gvL (st cs k (i * 4)) 1).set (i * 4) (.str (markF (k + cnC (cs.take (i * 4)))))).set (i * 4 + 1) (.val (.int .i64 (IntKind.i64.wrap (((k + cnC (cs.take (i * 4)) : Nat) : Int) + 1))))) :: gbL (st cs k (i * 4 + 4)) 1) [gv (.l 123 3 ((l.getD i default).2.2.2.map tAction.q)) 0, .val (.int .i64 ((k + cnC (cs.take (i * 4 + 3)) : Nat)))] (.l 123 3 ((l.getD i default).2.2.2.map tAction.q)) (mk (.l 123 3 ((l.getD i default).2.2.2.map tAction.q)) (k + cnC (cs.take (i * 4 + 3)))) _ (.cells (.row 34 4) (((gvL (st cs k (i * 4)) 1).set (i * 4) (.str (markF (k + cnC (cs.take (i * 4)))))).set (i * 4 + 1) (.val (.int .i64 (IntKind.i64.wrap (((k + cnC (cs.take (i * 4)) : Nat) : Int) + 1))))) :: gbL (mkC (cs.take (i * 4 + 3)) k) 1) (gbL (cs.drop (i * 4 + 3 + 1)) (1 + nbL (cs.take (i * 4 + 3)) + nb (.l 123 3 ((l.getD i default).2.2.2.map tAction.q)))) t3 rfl ?_ (nb_mk _ _) (.cons (.inl ⟨by rw [pre_st]; rfl, rfl⟩) (.cons (.inr (by exact Sees0.val _)) .nil)) ?_ ?_
 ·exact bx_st k (hc3 i hlt) _
 ·exact bx_st' k (hc3 i hlt) _
 repeat' first
  | (conv => whnf
     first | refine Need.mk rfl ?_ | refine Round.mk ?_)
 refine ⟨i + 1, by omega, weak_st ⟨rfl, AV.int_congr ?_, AV.int_congr ?_, trivial⟩ (congrArg (ABox.cells (.row 34 4)) ?_) ?_ rfl ?_, by omega⟩
 ·rw [hi1]
 ·rw [wrap64 (by omega) (by omega)]; rfl
 ·rw [hi1, g3, g2, g1, g0]
  try rfl
 ·rw [hi1]
 ·simp only [hi1, List.length_cons, length_gbL, nbL_st, Nat.le_refl]
open Abs
theorem tFact_size (a : Fct) : tFct.size a = a.1.length + tStrs.size a.2 := rfl
theorem tFct_cn : CnB tFct 2 := CnB.pair CnB.str (CnB.plain CnB.str _ _ _)
theorem tFcts_sz (l : List Fct) : tFcts.size l = l.length + listSize tFct l := rfl
theorem tFct_get {l : List Fct} {i : Nat} (hi : i < l.length) : l[i]? = some (l.getD i default) := by simp [List.getD, hi]
theorem tFct_le {l : List Fct} {i : Nat} (hi : i < l.length) : tFct.size (l.getD i default) ≤ listSize tFct l := listSize_mem tFct (List.mem_of_getElem? (tFct_get hi))
theorem eqFact.big (f g : Fct) (h : tFct.size f ≤ 1099511627775) : eqFact.Ret [.agg (oldL (tFct.q f)), .agg (oldL (tFct.q g))] (.val (.bool (decide (f = g)))) [] := by
 refine eqFact.ir.of rfl ?_
 have hz := tFact_size f
 repeat' first
  | (conv => whnf
     first | refine Fork.sne (fun _ => ?_) (fun _ => ?_) | refine Fork.neg (fun _ => ?_) (fun _ => ?_) | refine FinVal.keep ?_ | refine Final.mk ?_ rfl | refine ACall.scalA _ _ (eqStringS.big _ _ ?_) rfl ?_)
  | refine AV.bool_congr ?_
 all_goals first
  | omega
  | (simp only [tStrs_size, tInts_size] at *; omega)
  | (obtain ⟨x0, x1⟩ := f; obtain ⟨y0, y1⟩ := g; simp_all)
theorem eqFactS.big (l m : List Fct) (h : tFcts.size l ≤ 1099511627775) : eqFactS.Ret [.list none (rows tFct l), .list none (rows tFct m)] (.val (.bool (decide (l = m)))) [] := by
 refine eqFactS.ir.of rfl ?_
 rw [tFcts_sz] at h
 repeat' first
  | (conv => whnf
     first | refine Need.mk rfl ?_ | refine Fork.bne (fun _ => ?_) (fun _ => ?_) | refine FinVal.keep ?_ | refine Final.mk ?_ rfl)
  | refine AV.bool_congr ?_
 ·rename_i h
  rw [length_rows, length_rows] at h
  have h3 : ¬ l = m := fun e => h (by rw [e])
  simp [h3]
 rename_i h
 rw [length_rows, length_rows] at h
 have h : l.length = m.length := by omega
 skip
 refine ALoop.mk Nat (fun i => ⟨[(0, .list none (rows tFct l)), (1, .list none (rows tFct m)), (5, .val (.int .i64 i))], [], []⟩) (fun i => i ≤ l.length ∧ l.take i = m.take i) (fun i => l.length - i) ⟨0, ⟨Nat.zero_le _, rfl⟩, ?_⟩ (fun i hi => ?_)
 ·repeat' first
   | exact trivial | refine wl_ ?_ ?_ ?_ ?_ | refine And.intro ?_ ?_ | with_reducible rfl | exact ble_ | refine AV.int_congr ?_ | refine AV.list_congr ?_ | (apply rfl)
 repeat' first
  | (conv => whnf
     first | refine Need.mk rfl ?_ | refine nb_ ?_ | refine Ix.mapF (fun _ => rfl) ?_ | refine Fork.dec (fun _ => ?_) (fun _ => ?_) | refine Fork.neg (fun _ => ?_) (fun _ => ?_) | refine Round.mk ?_ | refine FinVal.keep ?_ | refine Final.mk ?_ rfl | refine AQCall.mkA _ _ (fun hg => eqFact.big _ _ ?_) rfl ?_)
  | refine AV.bool_congr ?_
 ·rename_i h1
  rw [length_rows] at h1
  have := listSize_mem tFct (List.mem_of_getElem? (tFct_get (l := l) (i := i) (by omega)))
  rw [Int.toNat_natCast]; omega
 ·rename_i h1 h2
  have h3 : ¬ l = m := fun e => of_decide_eq_false h2 (by rw [e])
  simp [h3]
 ·rename_i h1 h2
  rw [length_rows] at h1
  rw [Int.toNat_natCast] at h2
  refine ⟨i + 1, ⟨by omega, ?_⟩, ?_, by omega⟩
  ·rw [take_succ' default (by omega), take_succ' (l := m) default (by omega), hi.2, of_decide_eq_true h2]
  ·repeat' first
    | exact trivial | refine wl_ ?_ ?_ ?_ ?_ | refine And.intro ?_ ?_ | with_reducible rfl | exact ble_ | refine AV.int_congr ?_ | refine AV.list_congr ?_ | (apply rfl)
   rw [wrap64 (by omega) (by omega)]; rfl
 ·rename_i h1
  rw [length_rows] at h1
  have h2 := hi.2
  rw [List.take_of_length_le (by omega), List.take_of_length_le (by omega)] at h2
  simp [h2]
theorem markFactS.tn (l : List Fct) (k : Nat) (hs : tFcts.size l ≤ 1099511627775) (hk : k + cn (.l 86 2 (l.map tFct.q)) ≤ 1099511627775) :
 markFactS.Turn (gb (.l 86 2 (l.map tFct.q)) 0) [gv (.l 86 2 (l.map tFct.q)) 0, .val (.int .i64 k)] (.val (.int .i64 ((k + cn (.l 86 2 (l.map tFct.q)) : Nat)))) (gb (mk (.l 86 2 (l.map tFct.q)) k) 0) := by
 refine markFactS.ofT rfl rfl (by rw [length_gb, nb_mk]) ?_
 obtain ⟨cs, hcs⟩ : ∃ cs, cs = (l.map tFct.q).flatten := ⟨_, rfl⟩
 have hlen : cs.length = l.length * 2 := by rw [hcs]; exact flat_len _ 2 tFct.hq l
 have hc0 : ∀ i, i < l.length → cs[i * 2 + 0]? = some (.s (l.getD i default).1) := fun i hi => by rw [hcs]; exact cell_at tFct.q 2 tFct.hq hi rfl
 have hc1 : ∀ i, i < l.length → cs[i * 2 + 1]? = some (.l 9 1 ((l.getD i default).2.map Ty.str.q)) := fun i hi => by rw [hcs]; exact cell_at tFct.q 2 tFct.hq hi rfl
 rw [gb_mk_l0, gb_l0, cn_l, gv, List.length_map, ← hcs]
 rw [cn_l, ← hcs] at hk
 clear hcs
 skip
 refine ALoop.mk Nat (fun i => ⟨[(0, .bsl 0 l.length), (1, .val (.int .i64 ((k + cnC (cs.take (i * 2)) : Nat)))), (5, .val (.int .i64 i))], .cells (.row 86 2) (gvL (st cs k (i * 2)) 1) :: gbL (st cs k (i * 2)) 1, []⟩) (fun i => i ≤ l.length) (fun i => l.length - i) ⟨0, Nat.zero_le _, ?_⟩ (fun i hi => ?_)
 ·refine weak_st ⟨rfl, ?_, rfl, trivial⟩ ?_ ?_ rfl ?_
  ·rw [Nat.zero_mul]; rfl
  ·rw [Nat.zero_mul, st_zero]
  ·rw [Nat.zero_mul, st_zero]
  ·rw [Nat.zero_mul, st_zero, List.length_cons]; exact Nat.le_refl _
 have hle := cn_take_le cs (i * 2)
 rw [tFcts_sz] at hs
 rcases Nat.lt_or_ge i l.length with hlt | hge
 rotate_left
 ·have hiw : i * 2 = cs.length := by omega
  repeat' first
   | (conv => whnf
      first | refine Need.mk rfl ?_ | refine Fork.decNo (by omega) ?_ | refine forceBx_of ?_ | refine FinalT.mk ?_ ?_)
   | refine AV.int_congr ?_
  ·rw [hiw, List.take_length]
  ·rw [hiw, st_all cs k rfl]; exact take_all (by rw [List.length_cons, List.length_cons, length_gbL, length_gbL, nbL_mkC]; exact Nat.le_refl _)
 have hi1 : (i + 1) * 2 = i * 2 + 2 := by omega
 have hsz := tFct_le hlt
 have hz3 := tFact_size (l.getD i default)
 repeat' first
  | (conv => whnf
     first | refine Need.mk rfl ?_ | refine Fork.decYes (by omega) ?_ | refine forceBx_of ?_)
 have l0 := cn_take_le cs (i * 2 + 1)
 have n0 : cnC (cs.take (i * 2 + 1)) = cnC (cs.take (i * 2)) + 1 := cn_succ (hc0 i hlt)
 have w0 : IntKind.i64.wrap (((k + cnC (cs.take (i * 2)) : Nat) : Int) + 1) = ((k + cnC (cs.take (i * 2 + 1)) : Nat) : Int) := by rw [wrap64 (by omega) (by omega)]; omega
 have b0 : gbL (st cs k (i * 2 + 1)) 1 = gbL (st cs k (i * 2)) 1 := gbL_st k 1 (hc0 i hlt) rfl
 have g0 : gvL (st cs k (i * 2 + 1)) 1 = (gvL (st cs k (i * 2)) 1).set (i * 2) (.str (markF (k + cnC (cs.take (i * 2))))) := gvL_st k 1 (hc0 i hlt)
 conv => whnf
 refine ACall.scal [.val (.int .i64 ((k + cnC (cs.take (i * 2)) : Nat)))] _ (markText.ret (k + cnC (cs.take (i * 2))) (by omega)) rfl (.cons (SeesB.of0 (by exact Sees0.val _)) .nil) ?_
 repeat' first
  | (conv => whnf
     first | refine Need.mk rfl ?_ | refine Need.fin ?_ | refine Need.mk ⟨rfl, by simp only [length_setAt, List.length_set, length_gvL, length_st, Int.toNat_natCast]; omega⟩ ?_)
 have l1 := cn_take_le cs (i * 2 + 2)
 have n1 : cnC (cs.take (i * 2 + 2)) = cnC (cs.take (i * 2 + 1)) + cn (.l 9 1 ((l.getD i default).2.map Ty.str.q)) := cn_succ (hc1 i hlt)
 have g1 : gvL (st cs k (i * 2 + 2)) 1 = gvL (st cs k (i * 2 + 1)) 1 := gvL_stL k 1 (hc1 i hlt)
 have t1 : markStringS.Turn (gb (.l 9 1 ((l.getD i default).2.map Ty.str.q)) 0) [gv (.l 9 1 ((l.getD i default).2.map Ty.str.q)) 0, .val (.int .i64 ((k + cnC (cs.take (i * 2 + 1)) : Nat)))] (.val (.int .i64 ((k + cnC (cs.take (i * 2 + 2)) : Nat)))) (gb (mk (.l 9 1 ((l.getD i default).2.map Ty.str.q)) (k + cnC (cs.take (i * 2 + 1)))) 0) := by
  have h := markStringS.tn (l.getD i default).2 (k + cnC (cs.take (i * 2 + 1))) (by omega) (by omega)
  rw [Nat.add_assoc, ← n1] at h; exact h
 have d1 : ((gvL (st cs k (i * 2)) 1).set (i * 2) (.str (markF (k + cnC (cs.take (i * 2)))))).drop (i * 2 + 1) = gv (.l 9 1 ((l.getD i default).2.map Ty.str.q)) (1 + nbL (cs.take (i * 2 + 1))) :: gvL (cs.drop (i * 2 + 1 + 1)) (1 + nbL (cs.take (i * 2 + 1)) + nb (.l 9 1 ((l.getD i default).2.map Ty.str.q))) := by
  have h := ld_st k 1 (hc1 i hlt)
  try simp only [Nat.add_zero] at h
  rw [g0] at h
  exact h
 conv => whnf
 refine takeAV_one (n := 1) _ _ d1 ?_
 conv => whnf
 refine ACall.turn' (.cells (.row 86 2) ((gvL (st cs k (i * 2)) 1).set (i * 2) (.str (markF (k + cnC (cs.take (i * 2)))))) :: gbL (st cs k (i * 2 + 2)) 1) [gv (.l 9 1 ((l.getD i default).2.map Ty.str.q)) 0, .val (.int .i64 ((k + cnC (cs.take (i * 2 + 1)) : Nat)))] (.l 9 1 ((l.getD i default).2.map Ty.str.q)) (mk (.l 9 1 ((l.getD i default).2.map Ty.str.q)) (k + cnC (cs.take (i * 2 + 1)))) _ (.cells (.row 86 2) ((gvL (st cs k (i * 2)) 1).set (i * 2) (.str (markF (k + cnC (cs.take (i * 2)))))) :: gbL (mkC (cs.take (i * 2 + 1)) k) 1) (gbL (cs.drop (i * 2 + 1 + 1)) (1 + nbL (cs.take (i * 2 + 1)) + nb (.l 9 1 ((l.getD i default).2.map Ty.str.q)))) t1 rfl ?_ (nb_mk _ _) (.cons (.inl ⟨by rw [pre_st]; rfl, rfl⟩) (.cons (.inr (by rw [w0]; exact Sees0.val _)) .nil)) ?_ ?_
 ·rw [← b0]; exact bx_st k (hc1 i hlt) _
 ·exact bx_st' k (hc1 i hlt) _
 repeat' first
  | (conv => whnf
     first | refine Need.mk rfl ?_ | refine Round.mk ?_)
 refine ⟨i + 1, by omega, weak_st ⟨rfl, AV.int_congr ?_, AV.int_congr ?_, trivial⟩ (congrArg (ABox.cells (.row 86 2)) ?_) ?_ rfl ?_, by omega⟩
 ·rw [hi1]
 ·rw [wrap64 (by omega) (by omega)]; rfl
 ·rw [hi1, g1, g0]
  try rfl
 ·rw [hi1]
 ·simp only [hi1, List.length_cons, length_gbL, nbL_st, Nat.le_refl]
theorem heldFactS.hd (l : List Fct) (k : Nat) (hs : tFcts.size l ≤ 1099511627775) (hk : k + cn (.l 86 2 (l.map tFct.q)) ≤ 1099511627775) : heldFactS.Ret [old (mk (.l 86 2 (l.map tFct.q)) k), .val (.int .i64 k)] (.val (.int .i64 ((k + cn (.l 86 2 (l.map tFct.q)) : Nat)))) [] := by
 refine heldFactS.ir.ofS rfl rfl ?_
 have hl : (oldLL (mkLL (l.map tFct.q) k)).length = l.length := by rw [length_oldLL, length_mkLL, List.length_map]
 change k + cnLL (l.map tFct.q) ≤ _ at hk
 show aCode _ _ _ _ (doneS _ (.val (.int .i64 ((k + cnLL (l.map tFct.q) : Nat))))) ⟨argEnv 0 [.list none (oldLL (mkLL (l.map tFct.q) k)), .val (.int .i64 k)], [], []⟩
 skip
 refine ALoop.mk Nat (fun i => ⟨[(0, .list none (oldLL (mkLL (l.map tFct.q) k))), (1, .val (.int .i64 ((k + cnLL ((l.map tFct.q).take i) : Nat)))), (5, .val (.int .i64 i))], [], []⟩) (fun i => i ≤ l.length) (fun i => l.length - i) ⟨0, Nat.zero_le _, ?_⟩ (fun i hi => ?_)
 ·repeat' first
   | exact trivial | refine wl_ ?_ ?_ ?_ ?_ | refine And.intro ?_ ?_ | with_reducible rfl | exact ble_ | refine AV.int_congr ?_ | refine AV.list_congr ?_ | (apply rfl)
 rw [tFcts_sz] at hs
 rcases Nat.lt_or_ge i l.length with hlt | hge
 rotate_left
 ·have hil : (l.map tFct.q).take i = l.map tFct.q := List.take_of_length_le (by rw [List.length_map]; exact hge)
  repeat' first
   | (conv => whnf
      first | refine Need.mk rfl ?_ | refine Fork.decNo (by omega) ?_ | refine FinVal.keep ?_ | refine Final.mk ?_ rfl)
   | refine AV.int_congr ?_
  rw [hil]
 have hx : (l.map tFct.q)[i]? = some (tFct.q (l.getD i default)) := by rw [List.getElem?_map, tFct_get hlt]; rfl
 have hle := cnLL_take_le (l.map tFct.q) (i + 1)
 have hn := cnLL_succ hx
 have hsz := tFct_le hlt
 have hz4 := tFact_size (l.getD i default)
 obtain ⟨K, hK⟩ : ∃ K, K = k + cnLL ((l.map tFct.q).take i) := ⟨_, rfl⟩
 have hix : (0 : Int) ≤ (i : Int) ∧ (oldLL (mkLL (l.map tFct.q) k))[(i : Int).toNat]? = some (oldL (mkC (tFct.q (l.getD i default)) K)) ∧ (oldL (mkC (tFct.q (l.getD i default)) K)).length = 2 := by
  refine ⟨by omega, ?_, by rw [oldL_eq, List.length_map, length_mkC, tFct.hq]; rfl⟩
  rw [Int.toNat_natCast, oldLL_eq, List.getElem?_map, mkLL_get _ _ _ _ hx, oldL_eq, hK]; rfl
 have hKn : k + cnLL ((l.map tFct.q).take (i + 1)) = K + 1 + cn (.l 9 1 ((l.getD i default).2.map Ty.str.q)) := by
  rw [hn, ← Nat.add_assoc, ← hK]
  show K + (1 + (cn (.l 9 1 ((l.getD i default).2.map Ty.str.q)) + (0))) = _
  simp only [Nat.add_assoc, Nat.add_zero]
 rw [← hK]
 have w0 : IntKind.i64.wrap (((K : Nat) : Int) + 1) = ((K + 1 : Nat) : Int) := by rw [wrap64 (by omega) (by omega)]; omega
 repeat' first
  | (conv => whnf
     first | refine Need.mk rfl ?_ | refine Ix.mk _ (fun _ => hix) ?_ | refine Fork.decYes (by omega) ?_)
 conv => whnf
 first
  | refine AQCall.mk [.val (.int .i64 ((K : Nat)))] _ (fun _ => markText.ret (K) (by omega)) rfl (fun _ => .cons (SeesB.of0 (by exact Sees0.val _)) .nil) ?_
  | refine ACall.scal [.val (.int .i64 ((K : Nat)))] _ (markText.ret (K) (by omega)) rfl (.cons (SeesB.of0 (by exact Sees0.val _)) .nil) ?_
 conv => whnf
 refine Fork.sne (fun h => absurd rfl h) (fun _ => ?_)
 repeat' first
  | (conv => whnf
     first | refine Need.mk rfl ?_ | refine Ix.mk _ (fun _ => hix) ?_)
 conv => whnf
 refine ACall.scal [old (mk (.l 9 1 ((l.getD i default).2.map Ty.str.q)) (K + 1)), .val (.int .i64 ((K + 1 : Nat)))] _ (heldStringS.hd (l.getD i default).2 (K + 1) (by omega) (by omega)) rfl (.cons (SeesB.of0 (Sees0.olds _ _)) (.cons (SeesB.of0 (by rw [w0]; exact Sees0.val _)) .nil)) ?_
 repeat' first
  | (conv => whnf
     first | refine Need.mk rfl ?_ | refine Fork.decNo (by omega) ?_ | refine Round.mk ?_)
 refine ⟨i + 1, by omega, ?_, by omega⟩
 repeat' first
  | exact trivial | refine wl_ ?_ ?_ ?_ ?_ | refine And.intro ?_ ?_ | with_reducible rfl | exact ble_ | refine AV.int_congr ?_ | refine AV.list_congr ?_ | (apply rfl)
 ·rw [hKn]
 ·rw [wrap64 (by omega) (by omega)]; rfl
end Go.Proofs.YtoindmahilbalaaGreat
