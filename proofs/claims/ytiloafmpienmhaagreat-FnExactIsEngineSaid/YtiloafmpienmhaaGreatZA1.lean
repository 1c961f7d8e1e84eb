/-
  What stands below some laws' proofs, part 1: contracts of functions, by an evaluator.
-/
import Derived.Test.YtiloafmpienmhaaGreatK5
import Derived.Laws.RangeAny
import Derived.Shelf.Strings.OnBuilder
import Derived.Test.YtiloafmpienmhaaGreatProg
import Derived.Sort.Row
import Derived.Sort.Grow
import Derived.Shelf.Sort.Plain
import Derived.Shelf.Slices.CompactS
import Derived.Shelf.Slices.In.SortNone
import Derived.Lib.SlicesCompact
import Derived.Sort.Statements
import Derived.Sort.KeysCollected
import Derived.Maps.Own
import Derived.Shelf.Spec.SlicesGrow
import Derived.Ground.Names8Prog
import Derived.Test.YtiloafmpienmhaaGreatRows
import Derived.ProofKit
import Derived.Deep.Slices
namespace Go.Proofs.YtiloafmpienmhaaGreat
open Abs
/-- the code of a function, as the evaluator reads it -/
def IrAt (P : Program) (k : Nat) (c : ACode) (K : List Nat) (rs : List RRes) (n : Nat) : Prop := ∃ fn, P.funcs[k]? = some fn ∧ fn.body.isSome = true ∧ (fn.name == "runtime.NumGoroutine") = false ∧ n = fn.ntmps ∧ cCode P fn.ntmps (fn.body.getD .skip) = c ∧ fn.results.toList.map (cRes P) = rs ∧ K = K
theorem ir_ {P : Program} {k : Nat} {fn : Func} {c : ACode} {K : List Nat} {rs : List RRes} {n : Nat} (h1 : P.funcs[k]? = some fn) (h2 : fn.body.isSome = true := by rfl) (h3 : (fn.name == "runtime.NumGoroutine") = false := by kernel_rfl) (h4 : n = fn.ntmps := by rfl) (h5 : cCode P fn.ntmps (fn.body.getD .skip) = c := by kernel_rfl) (h6 : fn.results.toList.map (cRes P) = rs := by kernel_rfl) : IrAt P k c K rs n := ⟨fn, h1, h2, h3, h4, h5, h6, rfl⟩
theorem IrAt.of {P : Program} {k : Nat} {c : ACode} {K : List Nat} {rs : List RRes} {n : Nat} (q : IrAt P k c K rs n) {mo : Bool} {args : List AV} {r : AV} {frs : Fr} (hn : Nat.ble args.length n = true) (h : aCode (Kn mo P) K 0 c (doneK rs r frs) ⟨argEnv 0 args, [], []⟩) : Abs.Ret mo P k args r frs := by
  obtain ⟨fn, h1, h2, h3, h4, h5, h6, _⟩ := q
  exact Abs.Ret.of_ir h1 h2 h3 (h4 ▸ Nat.le_of_ble_eq_true hn) h5 h6 h
theorem IrAt.ofS {P : Program} {k : Nat} {c : ACode} {K : List Nat} {rs : List RRes} {n : Nat} (q : IrAt P k c K rs n) {mo : Bool} {args : List AV} {r : AV} (hr : isScalR r = true) (hn : Nat.ble args.length n = true) (h : aCode (Kn mo P) K 0 c (doneS rs r) ⟨argEnv 0 args, [], []⟩) : Abs.Ret mo P k args r [] := by
  obtain ⟨fn, h1, h2, h3, h4, h5, h6, _⟩ := q
  exact Abs.Ret.of_irS hr h1 h2 h3 (h4 ▸ Nat.le_of_ble_eq_true hn) h5 h6 h
theorem ble_ {a b : Nat} (h : Nat.ble a b = true := by rfl) : a ≤ b := Nat.le_of_ble_eq_true h
theorem wl_ {nb : Nat} {x y : St} (h1 : agrees x.env y.env) (h2 : x.bx.take y.bx.length = y.bx) (h3 : x.fr = y.fr) (h4 : nb ≤ y.bx.length) (h5 : x.bx.length ≤ y.bx.length := by exact Nat.le_of_ble_eq_true rfl) : Weak nb x y := .mk h1 h2 h3 h4 (.inl h5)
theorem wr_ {nb : Nat} {x y : St} (h1 : agrees x.env y.env) (h2 : x.bx.take y.bx.length = y.bx) (h3 : x.fr = y.fr) (h4 : nb ≤ y.bx.length) (h5 : inBE y.bx.length y.env := by repeat' first | exact trivial | exact Nat.le_of_ble_eq_true rfl | refine And.intro ?_ ?_) (h6 : inBX y.bx.length y.bx := by repeat' first | exact trivial | exact Nat.le_of_ble_eq_true rfl | refine And.intro ?_ ?_) : Weak nb x y := .mk h1 h2 h3 h4 (.inr ⟨h5, h6⟩)
theorem nb_ {a b : Nat} {q : Prop} (k : q) (h : a ≤ b := by exact Nat.le_of_ble_eq_true rfl) : Need (a ≤ b) q := .mk h k
def v_ (d n : Nat) : AO := s d (.mv (t n))
def r_ (l : List AO) : ACode := .region false l
def l_ (n : Nat) : AOp := .load false 1 (t n)
def a_ (k n : Nat) : AOp := .load true k (t n)
def f_ (k n : Nat) : AOp := .fadr k (t n)
def i_ (n : Int) : Operand := .const (.int .i64 n)
def q_ (a b : ACode) : ACode := .seq a b
def mf_ : AOp := .mv (.const (.bool false))
def mt_ : AOp := .mv (.const (.bool true))
end Go.Proofs.YtiloafmpienmhaaGreat
namespace Go.Proofs.YtiloafmpienmhaaGreat
open Abs
def eqAction.code : ACode := (q_ (r_ [s 2 (.box (t 0)), s 3 (.box (t 1)), s 4 mf_]) (q_ (q_ (r_ [s 5 (f_ 0 2), s 6 (l_ 5), s 7 (f_ 0 3), s 8 (l_ 7), s 9 (.bin .neq (t 6) (t 8))]) (.cond (t 9) (q_ (r_ [s 4 mf_]) .ret) .skip)) (q_ (q_ (r_ [s 10 (f_ 1 2), s 11 (a_ 2 10), s 12 (f_ 1 3), s 13 (a_ 2 12), s 14 (.call 218 [t 11, t 13]), s 15 (.not (t 14))]) (.cond (t 15) (q_ (r_ [s 4 mf_]) .ret) .skip)) (q_ (r_ [s 4 mt_]) .ret))))
theorem eqAction.ir : IrAt Tryz.prog 175 eqAction.code [0, 1, 2, 3, 4] [.tmp 4] Tryz.f175.ntmps := ir_ Tryz.func175
abbrev eqAction.Ret (args : List AV) (r : AV) (frs : Fr) : Prop := Abs.Ret true Tryz.prog 175 args r frs
def eqActionS.code : ACode := (q_ (r_ [s 4 mf_]) (q_ (q_ (r_ [v_ 6 0, s 7 (.len false (t 6)), v_ 8 1, s 9 (.len false (t 8)), s 10 (.bin .neq (t 7) (t 9))]) (.cond (t 10) (q_ (r_ [s 4 mf_]) .ret) .skip)) (q_ (q_ (r_ [s 5 (.mv (i_ 0))]) (.block 0 (.loop (q_ (q_ (r_ [v_ 11 5, v_ 12 0, s 13 (.len false (t 12)), s 14 (.bin .lss (t 11) (t 13))]) (.cond (t 14) .skip (.exit 0))) (q_ (.block 1 (q_ (.region true [v_ 17 0, v_ 18 5, s 19 (.iadr 3 (t 17) (t 18)), s 20 (a_ 3 19), v_ 21 1, v_ 22 5, s 23 (.iadr 3 (t 21) (t 22)), s 24 (a_ 3 23), s 25 (.call 175 [t 20, t 24]), s 26 (.not (t 25))]) (.cond (t 26) (q_ (r_ [s 4 mf_]) .ret) .skip))) (r_ [v_ 15 5, s 16 (.bin .add (t 15) (i_ 1)), v_ 5 16])))))) (q_ (r_ [s 4 mt_]) .ret))))
theorem eqActionS.ir : IrAt Tryz.prog 116 eqActionS.code [0, 1, 4, 5] [.tmp 4] Tryz.f116.ntmps := ir_ Tryz.func116
abbrev eqActionS.Ret (args : List AV) (r : AV) (frs : Fr) : Prop := Abs.Ret true Tryz.prog 116 args r frs
def eqCond.code : ACode := (q_ (r_ [s 2 (.box (t 0)), s 3 (.box (t 1)), s 4 mf_]) (q_ (q_ (r_ [s 5 (f_ 0 2), s 6 (l_ 5), s 7 (f_ 0 3), s 8 (l_ 7), s 9 (.bin .neq (t 6) (t 8))]) (.cond (t 9) (q_ (r_ [s 4 mf_]) .ret) .skip)) (q_ (q_ (r_ [s 10 (f_ 1 2), s 11 (a_ 2 10), s 12 (f_ 1 3), s 13 (a_ 2 12), s 14 (.call 218 [t 11, t 13]), s 15 (.not (t 14))]) (.cond (t 15) (q_ (r_ [s 4 mf_]) .ret) .skip)) (q_ (q_ (r_ [s 16 (f_ 3 2), s 17 (l_ 16), s 18 (f_ 3 3), s 19 (l_ 18), s 20 (.bin .neq (t 17) (t 19))]) (.cond (t 20) (q_ (r_ [s 4 mf_]) .ret) .skip)) (q_ (q_ (r_ [s 21 (f_ 4 2), s 22 (l_ 21), s 23 (f_ 4 3), s 24 (l_ 23), s 25 (.bin .neq (t 22) (t 24))]) (.cond (t 25) (q_ (r_ [s 4 mf_]) .ret) .skip)) (q_ (r_ [s 4 mt_]) .ret))))))
theorem eqCond.ir : IrAt Tryz.prog 174 eqCond.code [0, 1, 2, 3, 4] [.tmp 4] Tryz.f174.ntmps := ir_ Tryz.func174
abbrev eqCond.Ret (args : List AV) (r : AV) (frs : Fr) : Prop := Abs.Ret true Tryz.prog 174 args r frs
def eqCondS.code : ACode := (q_ (r_ [s 4 mf_]) (q_ (q_ (r_ [v_ 6 0, s 7 (.len false (t 6)), v_ 8 1, s 9 (.len false (t 8)), s 10 (.bin .neq (t 7) (t 9))]) (.cond (t 10) (q_ (r_ [s 4 mf_]) .ret) .skip)) (q_ (q_ (r_ [s 5 (.mv (i_ 0))]) (.block 0 (.loop (q_ (q_ (r_ [v_ 11 5, v_ 12 0, s 13 (.len false (t 12)), s 14 (.bin .lss (t 11) (t 13))]) (.cond (t 14) .skip (.exit 0))) (q_ (.block 1 (q_ (.region true [v_ 17 0, v_ 18 5, s 19 (.iadr 5 (t 17) (t 18)), s 20 (a_ 5 19), v_ 21 1, v_ 22 5, s 23 (.iadr 5 (t 21) (t 22)), s 24 (a_ 5 23), s 25 (.call 174 [t 20, t 24]), s 26 (.not (t 25))]) (.cond (t 26) (q_ (r_ [s 4 mf_]) .ret) .skip))) (r_ [v_ 15 5, s 16 (.bin .add (t 15) (i_ 1)), v_ 5 16])))))) (q_ (r_ [s 4 mt_]) .ret))))
theorem eqCondS.ir : IrAt Tryz.prog 115 eqCondS.code [0, 1, 4, 5] [.tmp 4] Tryz.f115.ntmps := ir_ Tryz.func115
abbrev eqCondS.Ret (args : List AV) (r : AV) (frs : Fr) : Prop := Abs.Ret true Tryz.prog 115 args r frs
def eqEngine.code : ACode := (q_ (r_ [s 2 (.box (t 0)), s 3 (.box (t 1)), s 4 mf_]) (q_ (q_ (r_ [s 5 (f_ 0 2), s 6 (l_ 5), s 7 (f_ 0 3), s 8 (l_ 7), s 9 (.call 15 [t 6, t 8]), s 10 (.not (t 9))]) (.cond (t 10) (q_ (r_ [s 4 mf_]) .ret) .skip)) (q_ (q_ (r_ [s 11 (f_ 1 2), s 12 (l_ 11), s 13 (f_ 1 3), s 14 (l_ 13), s 15 (.call 16 [t 12, t 14]), s 16 (.not (t 15))]) (.cond (t 16) (q_ (r_ [s 4 mf_]) .ret) .skip)) (q_ (q_ (r_ [s 17 (f_ 2 2), s 18 (l_ 17), s 19 (f_ 2 3), s 20 (l_ 19), s 21 (.bin .neq (t 18) (t 20))]) (.cond (t 21) (q_ (r_ [s 4 mf_]) .ret) .skip)) (q_ (q_ (r_ [s 22 (f_ 3 2), s 23 (l_ 22), s 24 (f_ 3 3), s 25 (l_ 24), s 26 (.call 80 [t 23, t 25]), s 27 (.not (t 26))]) (.cond (t 27) (q_ (r_ [s 4 mf_]) .ret) .skip)) (q_ (q_ (r_ [s 28 (f_ 4 2), s 29 (l_ 28), s 30 (f_ 4 3), s 31 (l_ 30), s 32 (.binb .neq (t 29) (t 31))]) (.cond (t 32) (q_ (r_ [s 4 mf_]) .ret) .skip)) (q_ (q_ (r_ [s 33 (f_ 5 2), s 34 (l_ 33), s 35 (f_ 5 3), s 36 (l_ 35), s 37 (.call 81 [t 34, t 36]), s 38 (.not (t 37))]) (.cond (t 38) (q_ (r_ [s 4 mf_]) .ret) .skip)) (q_ (r_ [s 4 mt_]) .ret))))))))
theorem eqEngine.ir : IrAt Tryz.prog 27 eqEngine.code [0, 1, 2, 3, 4] [.tmp 4] Tryz.f27.ntmps := ir_ Tryz.func27
abbrev eqEngine.Ret (args : List AV) (r : AV) (frs : Fr) : Prop := Abs.Ret true Tryz.prog 27 args r frs
def eqEvent.code : ACode := (q_ (r_ [s 2 (.box (t 0)), s 3 (.box (t 1)), s 4 mf_]) (q_ (q_ (r_ [s 5 (f_ 0 2), s 6 (l_ 5), s 7 (f_ 0 3), s 8 (l_ 7), s 9 (.bin .neq (t 6) (t 8))]) (.cond (t 9) (q_ (r_ [s 4 mf_]) .ret) .skip)) (q_ (q_ (r_ [s 10 (f_ 1 2), s 11 (l_ 10), s 12 (f_ 1 3), s 13 (l_ 12), s 14 (.bin .neq (t 11) (t 13))]) (.cond (t 14) (q_ (r_ [s 4 mf_]) .ret) .skip)) (q_ (q_ (r_ [s 15 (f_ 2 2), s 16 (a_ 2 15), s 17 (f_ 2 3), s 18 (a_ 2 17), s 19 (.call 117 [t 16, t 18]), s 20 (.not (t 19))]) (.cond (t 20) (q_ (r_ [s 4 mf_]) .ret) .skip)) (q_ (r_ [s 4 mt_]) .ret)))))
theorem eqEvent.ir : IrAt Tryz.prog 137 eqEvent.code [0, 1, 2, 3, 4] [.tmp 4] Tryz.f137.ntmps := ir_ Tryz.func137
abbrev eqEvent.Ret (args : List AV) (r : AV) (frs : Fr) : Prop := Abs.Ret true Tryz.prog 137 args r frs
def eqEventS.code : ACode := (q_ (r_ [s 4 mf_]) (q_ (q_ (r_ [v_ 6 0, s 7 (.len false (t 6)), v_ 8 1, s 9 (.len false (t 8)), s 10 (.bin .neq (t 7) (t 9))]) (.cond (t 10) (q_ (r_ [s 4 mf_]) .ret) .skip)) (q_ (q_ (r_ [s 5 (.mv (i_ 0))]) (.block 0 (.loop (q_ (q_ (r_ [v_ 11 5, v_ 12 0, s 13 (.len false (t 12)), s 14 (.bin .lss (t 11) (t 13))]) (.cond (t 14) .skip (.exit 0))) (q_ (.block 1 (q_ (.region true [v_ 17 0, v_ 18 5, s 19 (.iadr 4 (t 17) (t 18)), s 20 (a_ 4 19), v_ 21 1, v_ 22 5, s 23 (.iadr 4 (t 21) (t 22)), s 24 (a_ 4 23), s 25 (.call 137 [t 20, t 24]), s 26 (.not (t 25))]) (.cond (t 26) (q_ (r_ [s 4 mf_]) .ret) .skip))) (r_ [v_ 15 5, s 16 (.bin .add (t 15) (i_ 1)), v_ 5 16])))))) (q_ (r_ [s 4 mt_]) .ret))))
theorem eqEventS.ir : IrAt Tryz.prog 81 eqEventS.code [0, 1, 4, 5] [.tmp 4] Tryz.f81.ntmps := ir_ Tryz.func81
abbrev eqEventS.Ret (args : List AV) (r : AV) (frs : Fr) : Prop := Abs.Ret true Tryz.prog 81 args r frs
def eqFact.code : ACode := (q_ (r_ [s 2 (.box (t 0)), s 3 (.box (t 1)), s 4 mf_]) (q_ (q_ (r_ [s 5 (f_ 0 2), s 6 (l_ 5), s 7 (f_ 0 3), s 8 (l_ 7), s 9 (.bin .neq (t 6) (t 8))]) (.cond (t 9) (q_ (r_ [s 4 mf_]) .ret) .skip)) (q_ (q_ (r_ [s 10 (f_ 1 2), s 11 (l_ 10), s 12 (f_ 1 3), s 13 (l_ 12), s 14 (.call 176 [t 11, t 13]), s 15 (.not (t 14))]) (.cond (t 15) (q_ (r_ [s 4 mf_]) .ret) .skip)) (q_ (r_ [s 4 mt_]) .ret))))
theorem eqFact.ir : IrAt Tryz.prog 117 eqFact.code [0, 1, 2, 3, 4] [.tmp 4] Tryz.f117.ntmps := ir_ Tryz.func117
abbrev eqFact.Ret (args : List AV) (r : AV) (frs : Fr) : Prop := Abs.Ret true Tryz.prog 117 args r frs
def eqFiring.code : ACode := (q_ (r_ [s 2 (.box (t 0)), s 3 (.box (t 1)), s 4 mf_]) (q_ (q_ (r_ [s 5 (f_ 0 2), s 6 (l_ 5), s 7 (f_ 0 3), s 8 (l_ 7), s 9 (.bin .neq (t 6) (t 8))]) (.cond (t 9) (q_ (r_ [s 4 mf_]) .ret) .skip)) (q_ (q_ (r_ [s 10 (f_ 1 2), s 11 (l_ 10), s 12 (f_ 1 3), s 13 (l_ 12), s 14 (.call 54 [t 11, t 13]), s 15 (.not (t 14))]) (.cond (t 15) (q_ (r_ [s 4 mf_]) .ret) .skip)) (q_ (r_ [s 4 mt_]) .ret))))
theorem eqFiring.ir : IrAt Tryz.prog 136 eqFiring.code [0, 1, 2, 3, 4] [.tmp 4] Tryz.f136.ntmps := ir_ Tryz.func136
abbrev eqFiring.Ret (args : List AV) (r : AV) (frs : Fr) : Prop := Abs.Ret true Tryz.prog 136 args r frs
def eqFiringS.code : ACode := (q_ (r_ [s 4 mf_]) (q_ (q_ (r_ [v_ 6 0, s 7 (.len false (t 6)), v_ 8 1, s 9 (.len false (t 8)), s 10 (.bin .neq (t 7) (t 9))]) (.cond (t 10) (q_ (r_ [s 4 mf_]) .ret) .skip)) (q_ (q_ (r_ [s 5 (.mv (i_ 0))]) (.block 0 (.loop (q_ (q_ (r_ [v_ 11 5, v_ 12 0, s 13 (.len false (t 12)), s 14 (.bin .lss (t 11) (t 13))]) (.cond (t 14) .skip (.exit 0))) (q_ (.block 1 (q_ (.region true [v_ 17 0, v_ 18 5, s 19 (.iadr 2 (t 17) (t 18)), s 20 (a_ 2 19), v_ 21 1, v_ 22 5, s 23 (.iadr 2 (t 21) (t 22)), s 24 (a_ 2 23), s 25 (.call 136 [t 20, t 24]), s 26 (.not (t 25))]) (.cond (t 26) (q_ (r_ [s 4 mf_]) .ret) .skip))) (r_ [v_ 15 5, s 16 (.bin .add (t 15) (i_ 1)), v_ 5 16])))))) (q_ (r_ [s 4 mt_]) .ret))))
theorem eqFiringS.ir : IrAt Tryz.prog 80 eqFiringS.code [0, 1, 4, 5] [.tmp 4] Tryz.f80.ntmps := ir_ Tryz.func80
abbrev eqFiringS.Ret (args : List AV) (r : AV) (frs : Fr) : Prop := Abs.Ret true Tryz.prog 80 args r frs
def eqIntS.code : ACode := (q_ (r_ [s 4 mf_]) (q_ (q_ (r_ [v_ 6 0, s 7 (.len false (t 6)), v_ 8 1, s 9 (.len false (t 8)), s 10 (.bin .neq (t 7) (t 9))]) (.cond (t 10) (q_ (r_ [s 4 mf_]) .ret) .skip)) (q_ (q_ (r_ [s 5 (.mv (i_ 0))]) (.block 0 (.loop (q_ (q_ (r_ [v_ 11 5, v_ 12 0, s 13 (.len false (t 12)), s 14 (.bin .lss (t 11) (t 13))]) (.cond (t 14) .skip (.exit 0))) (q_ (.block 1 (q_ (.region true [v_ 17 0, v_ 18 5, s 19 (.iadr 1 (t 17) (t 18)), s 20 (l_ 19), v_ 21 1, v_ 22 5, s 23 (.iadr 1 (t 21) (t 22)), s 24 (l_ 23), s 25 (.bin .neq (t 20) (t 24))]) (.cond (t 25) (q_ (r_ [s 4 mf_]) .ret) .skip))) (r_ [v_ 15 5, s 16 (.bin .add (t 15) (i_ 1)), v_ 5 16])))))) (q_ (r_ [s 4 mt_]) .ret))))
theorem eqIntS.ir : IrAt Tryz.prog 54 eqIntS.code [0, 1, 4, 5] [.tmp 4] Tryz.f54.ntmps := ir_ Tryz.func54
abbrev eqIntS.Ret (args : List AV) (r : AV) (frs : Fr) : Prop := Abs.Ret true Tryz.prog 54 args r frs
def eqPattern.code : ACode := (q_ (r_ [s 2 (.box (t 0)), s 3 (.box (t 1)), s 4 mf_]) (q_ (q_ (r_ [s 5 (f_ 0 2), s 6 (l_ 5), s 7 (f_ 0 3), s 8 (l_ 7), s 9 (.bin .neq (t 6) (t 8))]) (.cond (t 9) (q_ (r_ [s 4 mf_]) .ret) .skip)) (q_ (q_ (r_ [s 10 (f_ 1 2), s 11 (l_ 10), s 12 (f_ 1 3), s 13 (l_ 12), s 14 (.call 176 [t 11, t 13]), s 15 (.not (t 14))]) (.cond (t 15) (q_ (r_ [s 4 mf_]) .ret) .skip)) (q_ (r_ [s 4 mt_]) .ret))))
theorem eqPattern.ir : IrAt Tryz.prog 218 eqPattern.code [0, 1, 2, 3, 4] [.tmp 4] Tryz.f218.ntmps := ir_ Tryz.func218
abbrev eqPattern.Ret (args : List AV) (r : AV) (frs : Fr) : Prop := Abs.Ret true Tryz.prog 218 args r frs
def eqRule.code : ACode := (q_ (r_ [s 2 (.box (t 0)), s 3 (.box (t 1)), s 4 mf_]) (q_ (q_ (r_ [s 5 (f_ 0 2), s 6 (l_ 5), s 7 (f_ 0 3), s 8 (l_ 7), s 9 (.bin .neq (t 6) (t 8))]) (.cond (t 9) (q_ (r_ [s 4 mf_]) .ret) .skip)) (q_ (q_ (r_ [s 10 (f_ 1 2), s 11 (l_ 10), s 12 (f_ 1 3), s 13 (l_ 12), s 14 (.bin .neq (t 11) (t 13))]) (.cond (t 14) (q_ (r_ [s 4 mf_]) .ret) .skip)) (q_ (q_ (r_ [s 15 (f_ 2 2), s 16 (l_ 15), s 17 (f_ 2 3), s 18 (l_ 17), s 19 (.call 115 [t 16, t 18]), s 20 (.not (t 19))]) (.cond (t 20) (q_ (r_ [s 4 mf_]) .ret) .skip)) (q_ (q_ (r_ [s 21 (f_ 3 2), s 22 (l_ 21), s 23 (f_ 3 3), s 24 (l_ 23), s 25 (.call 116 [t 22, t 24]), s 26 (.not (t 25))]) (.cond (t 26) (q_ (r_ [s 4 mf_]) .ret) .skip)) (q_ (r_ [s 4 mt_]) .ret))))))
theorem eqRule.ir : IrAt Tryz.prog 55 eqRule.code [0, 1, 2, 3, 4] [.tmp 4] Tryz.f55.ntmps := ir_ Tryz.func55
abbrev eqRule.Ret (args : List AV) (r : AV) (frs : Fr) : Prop := Abs.Ret true Tryz.prog 55 args r frs
def eqRuleS.code : ACode := (q_ (r_ [s 4 mf_]) (q_ (q_ (r_ [v_ 6 0, s 7 (.len false (t 6)), v_ 8 1, s 9 (.len false (t 8)), s 10 (.bin .neq (t 7) (t 9))]) (.cond (t 10) (q_ (r_ [s 4 mf_]) .ret) .skip)) (q_ (q_ (r_ [s 5 (.mv (i_ 0))]) (.block 0 (.loop (q_ (q_ (r_ [v_ 11 5, v_ 12 0, s 13 (.len false (t 12)), s 14 (.bin .lss (t 11) (t 13))]) (.cond (t 14) .skip (.exit 0))) (q_ (.block 1 (q_ (.region true [v_ 17 0, v_ 18 5, s 19 (.iadr 4 (t 17) (t 18)), s 20 (a_ 4 19), v_ 21 1, v_ 22 5, s 23 (.iadr 4 (t 21) (t 22)), s 24 (a_ 4 23), s 25 (.call 55 [t 20, t 24]), s 26 (.not (t 25))]) (.cond (t 26) (q_ (r_ [s 4 mf_]) .ret) .skip))) (r_ [v_ 15 5, s 16 (.bin .add (t 15) (i_ 1)), v_ 5 16])))))) (q_ (r_ [s 4 mt_]) .ret))))
theorem eqRuleS.ir : IrAt Tryz.prog 15 eqRuleS.code [0, 1, 4, 5] [.tmp 4] Tryz.f15.ntmps := ir_ Tryz.func15
abbrev eqRuleS.Ret (args : List AV) (r : AV) (frs : Fr) : Prop := Abs.Ret true Tryz.prog 15 args r frs
def eqStamp.code : ACode := (q_ (r_ [s 2 (.box (t 0)), s 3 (.box (t 1)), s 4 mf_]) (q_ (q_ (r_ [s 5 (f_ 0 2), s 6 (a_ 2 5), s 7 (f_ 0 3), s 8 (a_ 2 7), s 9 (.call 117 [t 6, t 8]), s 10 (.not (t 9))]) (.cond (t 10) (q_ (r_ [s 4 mf_]) .ret) .skip)) (q_ (q_ (r_ [s 11 (f_ 2 2), s 12 (l_ 11), s 13 (f_ 2 3), s 14 (l_ 13), s 15 (.bin .neq (t 12) (t 14))]) (.cond (t 15) (q_ (r_ [s 4 mf_]) .ret) .skip)) (q_ (r_ [s 4 mt_]) .ret))))
theorem eqStamp.ir : IrAt Tryz.prog 56 eqStamp.code [0, 1, 2, 3, 4] [.tmp 4] Tryz.f56.ntmps := ir_ Tryz.func56
abbrev eqStamp.Ret (args : List AV) (r : AV) (frs : Fr) : Prop := Abs.Ret true Tryz.prog 56 args r frs
def eqStampS.code : ACode := (q_ (r_ [s 4 mf_]) (q_ (q_ (r_ [v_ 6 0, s 7 (.len false (t 6)), v_ 8 1, s 9 (.len false (t 8)), s 10 (.bin .neq (t 7) (t 9))]) (.cond (t 10) (q_ (r_ [s 4 mf_]) .ret) .skip)) (q_ (q_ (r_ [s 5 (.mv (i_ 0))]) (.block 0 (.loop (q_ (q_ (r_ [v_ 11 5, v_ 12 0, s 13 (.len false (t 12)), s 14 (.bin .lss (t 11) (t 13))]) (.cond (t 14) .skip (.exit 0))) (q_ (.block 1 (q_ (.region true [v_ 17 0, v_ 18 5, s 19 (.iadr 3 (t 17) (t 18)), s 20 (a_ 3 19), v_ 21 1, v_ 22 5, s 23 (.iadr 3 (t 21) (t 22)), s 24 (a_ 3 23), s 25 (.call 56 [t 20, t 24]), s 26 (.not (t 25))]) (.cond (t 26) (q_ (r_ [s 4 mf_]) .ret) .skip))) (r_ [v_ 15 5, s 16 (.bin .add (t 15) (i_ 1)), v_ 5 16])))))) (q_ (r_ [s 4 mt_]) .ret))))
theorem eqStampS.ir : IrAt Tryz.prog 16 eqStampS.code [0, 1, 4, 5] [.tmp 4] Tryz.f16.ntmps := ir_ Tryz.func16
abbrev eqStampS.Ret (args : List AV) (r : AV) (frs : Fr) : Prop := Abs.Ret true Tryz.prog 16 args r frs
def eqStringS.code : ACode := (q_ (r_ [s 4 mf_]) (q_ (q_ (r_ [v_ 6 0, s 7 (.len false (t 6)), v_ 8 1, s 9 (.len false (t 8)), s 10 (.bin .neq (t 7) (t 9))]) (.cond (t 10) (q_ (r_ [s 4 mf_]) .ret) .skip)) (q_ (q_ (r_ [s 5 (.mv (i_ 0))]) (.block 0 (.loop (q_ (q_ (r_ [v_ 11 5, v_ 12 0, s 13 (.len false (t 12)), s 14 (.bin .lss (t 11) (t 13))]) (.cond (t 14) .skip (.exit 0))) (q_ (.block 1 (q_ (.region true [v_ 17 0, v_ 18 5, s 19 (.iadr 1 (t 17) (t 18)), s 20 (l_ 19), v_ 21 1, v_ 22 5, s 23 (.iadr 1 (t 21) (t 22)), s 24 (l_ 23), s 25 (.bin .neq (t 20) (t 24))]) (.cond (t 25) (q_ (r_ [s 4 mf_]) .ret) .skip))) (r_ [v_ 15 5, s 16 (.bin .add (t 15) (i_ 1)), v_ 5 16])))))) (q_ (r_ [s 4 mt_]) .ret))))
theorem eqStringS.ir : IrAt Tryz.prog 176 eqStringS.code [0, 1, 4, 5] [.tmp 4] Tryz.f176.ntmps := ir_ Tryz.func176
abbrev eqStringS.Ret (args : List AV) (r : AV) (frs : Fr) : Prop := Abs.Ret true Tryz.prog 176 args r frs
def szAction.code : ACode := (q_ (r_ [s 2 (.box (t 0)), s 4 (.mv (i_ 0))]) (q_ (r_ [s 5 (f_ 1 2), s 6 (a_ 2 5), v_ 7 1, s 8 (.call 193 [t 6, t 7]), v_ 1 8]) (q_ (q_ (r_ [v_ 9 1, s 10 (.bin .lss (t 9) (i_ 0))]) (.cond (t 10) (q_ (r_ [s 4 (.mv (.const (.int .i64 (-1))))]) .ret) .skip)) (q_ (r_ [v_ 11 1, v_ 4 11]) .ret))))
theorem szAction.ir : IrAt Tryz.prog 150 szAction.code [0, 1, 2, 4] [.tmp 4] Tryz.f150.ntmps := ir_ Tryz.func150
abbrev szAction.Ret (args : List AV) (r : AV) (frs : Fr) : Prop := Abs.Ret true Tryz.prog 150 args r frs
def szActionS.code : ACode := (q_ (r_ [s 4 (.mv (i_ 0))]) (q_ (r_ [v_ 6 1, v_ 7 0, s 8 (.len false (t 7)), s 9 (.bin .sub (t 6) (t 8)), v_ 1 9]) (q_ (q_ (r_ [v_ 10 1, s 11 (.bin .lss (t 10) (i_ 0))]) (.cond (t 11) (q_ (r_ [s 4 (.mv (.const (.int .i64 (-1))))]) .ret) .skip)) (q_ (q_ (r_ [s 5 (.mv (i_ 0))]) (.block 0 (.loop (q_ (q_ (r_ [v_ 12 5, v_ 13 0, s 14 (.len false (t 13)), s 15 (.bin .lss (t 12) (t 14))]) (.cond (t 15) .skip (.exit 0))) (q_ (.block 1 (q_ (r_ [v_ 18 0, v_ 19 5, s 20 (.iadr 3 (t 18) (t 19)), s 21 (a_ 3 20), v_ 22 1, s 23 (.call 150 [t 21, t 22]), v_ 1 23]) (q_ (r_ [v_ 24 1, s 25 (.bin .lss (t 24) (i_ 0))]) (.cond (t 25) (q_ (r_ [s 4 (.mv (.const (.int .i64 (-1))))]) .ret) .skip)))) (r_ [v_ 16 5, s 17 (.bin .add (t 16) (i_ 1)), v_ 5 17])))))) (q_ (r_ [v_ 26 1, v_ 4 26]) .ret)))))
theorem szActionS.ir : IrAt Tryz.prog 91 szActionS.code [0, 1, 4, 5] [.tmp 4] Tryz.f91.ntmps := ir_ Tryz.func91
abbrev szActionS.Ret (args : List AV) (r : AV) (frs : Fr) : Prop := Abs.Ret true Tryz.prog 91 args r frs
def szCond.code : ACode := (q_ (r_ [s 2 (.box (t 0)), s 4 (.mv (i_ 0))]) (q_ (r_ [s 5 (f_ 1 2), s 6 (a_ 2 5), v_ 7 1, s 8 (.call 193 [t 6, t 7]), v_ 1 8]) (q_ (q_ (r_ [v_ 9 1, s 10 (.bin .lss (t 9) (i_ 0))]) (.cond (t 10) (q_ (r_ [s 4 (.mv (.const (.int .i64 (-1))))]) .ret) .skip)) (q_ (r_ [v_ 11 1, s 12 (f_ 3 2), s 13 (l_ 12), s 14 (.len true (t 13)), s 15 (.bin .sub (t 11) (t 14)), v_ 1 15]) (q_ (q_ (r_ [v_ 16 1, s 17 (.bin .lss (t 16) (i_ 0))]) (.cond (t 17) (q_ (r_ [s 4 (.mv (.const (.int .i64 (-1))))]) .ret) .skip)) (q_ (r_ [v_ 18 1, s 19 (f_ 4 2), s 20 (l_ 19), s 21 (.len true (t 20)), s 22 (.bin .sub (t 18) (t 21)), v_ 1 22]) (q_ (q_ (r_ [v_ 23 1, s 24 (.bin .lss (t 23) (i_ 0))]) (.cond (t 24) (q_ (r_ [s 4 (.mv (.const (.int .i64 (-1))))]) .ret) .skip)) (q_ (r_ [v_ 25 1, v_ 4 25]) .ret))))))))
theorem szCond.ir : IrAt Tryz.prog 149 szCond.code [0, 1, 2, 4] [.tmp 4] Tryz.f149.ntmps := ir_ Tryz.func149
abbrev szCond.Ret (args : List AV) (r : AV) (frs : Fr) : Prop := Abs.Ret true Tryz.prog 149 args r frs
def szCondS.code : ACode := (q_ (r_ [s 4 (.mv (i_ 0))]) (q_ (r_ [v_ 6 1, v_ 7 0, s 8 (.len false (t 7)), s 9 (.bin .sub (t 6) (t 8)), v_ 1 9]) (q_ (q_ (r_ [v_ 10 1, s 11 (.bin .lss (t 10) (i_ 0))]) (.cond (t 11) (q_ (r_ [s 4 (.mv (.const (.int .i64 (-1))))]) .ret) .skip)) (q_ (q_ (r_ [s 5 (.mv (i_ 0))]) (.block 0 (.loop (q_ (q_ (r_ [v_ 12 5, v_ 13 0, s 14 (.len false (t 13)), s 15 (.bin .lss (t 12) (t 14))]) (.cond (t 15) .skip (.exit 0))) (q_ (.block 1 (q_ (r_ [v_ 18 0, v_ 19 5, s 20 (.iadr 5 (t 18) (t 19)), s 21 (a_ 5 20), v_ 22 1, s 23 (.call 149 [t 21, t 22]), v_ 1 23]) (q_ (r_ [v_ 24 1, s 25 (.bin .lss (t 24) (i_ 0))]) (.cond (t 25) (q_ (r_ [s 4 (.mv (.const (.int .i64 (-1))))]) .ret) .skip)))) (r_ [v_ 16 5, s 17 (.bin .add (t 16) (i_ 1)), v_ 5 17])))))) (q_ (r_ [v_ 26 1, v_ 4 26]) .ret)))))
theorem szCondS.ir : IrAt Tryz.prog 90 szCondS.code [0, 1, 4, 5] [.tmp 4] Tryz.f90.ntmps := ir_ Tryz.func90
abbrev szCondS.Ret (args : List AV) (r : AV) (frs : Fr) : Prop := Abs.Ret true Tryz.prog 90 args r frs
def szEngine.code : ACode := (q_ (r_ [s 2 (.box (t 0)), s 4 (.mv (i_ 0))]) (q_ (r_ [s 5 (f_ 0 2), s 6 (l_ 5), v_ 7 1, s 8 (.call 6 [t 6, t 7]), v_ 1 8]) (q_ (q_ (r_ [v_ 9 1, s 10 (.bin .lss (t 9) (i_ 0))]) (.cond (t 10) (q_ (r_ [s 4 (.mv (.const (.int .i64 (-1))))]) .ret) .skip)) (q_ (r_ [s 11 (f_ 1 2), s 12 (l_ 11), v_ 13 1, s 14 (.call 7 [t 12, t 13]), v_ 1 14]) (q_ (q_ (r_ [v_ 15 1, s 16 (.bin .lss (t 15) (i_ 0))]) (.cond (t 16) (q_ (r_ [s 4 (.mv (.const (.int .i64 (-1))))]) .ret) .skip)) (q_ (r_ [s 17 (f_ 3 2), s 18 (l_ 17), v_ 19 1, s 20 (.call 68 [t 18, t 19]), v_ 1 20]) (q_ (q_ (r_ [v_ 21 1, s 22 (.bin .lss (t 21) (i_ 0))]) (.cond (t 22) (q_ (r_ [s 4 (.mv (.const (.int .i64 (-1))))]) .ret) .skip)) (q_ (r_ [s 23 (f_ 5 2), s 24 (l_ 23), v_ 25 1, s 26 (.call 69 [t 24, t 25]), v_ 1 26]) (q_ (q_ (r_ [v_ 27 1, s 28 (.bin .lss (t 27) (i_ 0))]) (.cond (t 28) (q_ (r_ [s 4 (.mv (.const (.int .i64 (-1))))]) .ret) .skip)) (q_ (r_ [v_ 29 1, v_ 4 29]) .ret))))))))))
theorem szEngine.ir : IrAt Tryz.prog 23 szEngine.code [0, 1, 2, 4] [.tmp 4] Tryz.f23.ntmps := ir_ Tryz.func23
abbrev szEngine.Ret (args : List AV) (r : AV) (frs : Fr) : Prop := Abs.Ret true Tryz.prog 23 args r frs
def szEvent.code : ACode := (q_ (r_ [s 2 (.box (t 0)), s 4 (.mv (i_ 0))]) (q_ (r_ [v_ 5 1, s 6 (f_ 1 2), s 7 (l_ 6), s 8 (.len true (t 7)), s 9 (.bin .sub (t 5) (t 8)), v_ 1 9]) (q_ (q_ (r_ [v_ 10 1, s 11 (.bin .lss (t 10) (i_ 0))]) (.cond (t 11) (q_ (r_ [s 4 (.mv (.const (.int .i64 (-1))))]) .ret) .skip)) (q_ (r_ [s 12 (f_ 2 2), s 13 (a_ 2 12), v_ 14 1, s 15 (.call 92 [t 13, t 14]), v_ 1 15]) (q_ (q_ (r_ [v_ 16 1, s 17 (.bin .lss (t 16) (i_ 0))]) (.cond (t 17) (q_ (r_ [s 4 (.mv (.const (.int .i64 (-1))))]) .ret) .skip)) (q_ (r_ [v_ 18 1, v_ 4 18]) .ret))))))
theorem szEvent.ir : IrAt Tryz.prog 122 szEvent.code [0, 1, 2, 4] [.tmp 4] Tryz.f122.ntmps := ir_ Tryz.func122
abbrev szEvent.Ret (args : List AV) (r : AV) (frs : Fr) : Prop := Abs.Ret true Tryz.prog 122 args r frs
def szEventS.code : ACode := (q_ (r_ [s 4 (.mv (i_ 0))]) (q_ (r_ [v_ 6 1, v_ 7 0, s 8 (.len false (t 7)), s 9 (.bin .sub (t 6) (t 8)), v_ 1 9]) (q_ (q_ (r_ [v_ 10 1, s 11 (.bin .lss (t 10) (i_ 0))]) (.cond (t 11) (q_ (r_ [s 4 (.mv (.const (.int .i64 (-1))))]) .ret) .skip)) (q_ (q_ (r_ [s 5 (.mv (i_ 0))]) (.block 0 (.loop (q_ (q_ (r_ [v_ 12 5, v_ 13 0, s 14 (.len false (t 13)), s 15 (.bin .lss (t 12) (t 14))]) (.cond (t 15) .skip (.exit 0))) (q_ (.block 1 (q_ (r_ [v_ 18 0, v_ 19 5, s 20 (.iadr 4 (t 18) (t 19)), s 21 (a_ 4 20), v_ 22 1, s 23 (.call 122 [t 21, t 22]), v_ 1 23]) (q_ (r_ [v_ 24 1, s 25 (.bin .lss (t 24) (i_ 0))]) (.cond (t 25) (q_ (r_ [s 4 (.mv (.const (.int .i64 (-1))))]) .ret) .skip)))) (r_ [v_ 16 5, s 17 (.bin .add (t 16) (i_ 1)), v_ 5 17])))))) (q_ (r_ [v_ 26 1, v_ 4 26]) .ret)))))
theorem szEventS.ir : IrAt Tryz.prog 69 szEventS.code [0, 1, 4, 5] [.tmp 4] Tryz.f69.ntmps := ir_ Tryz.func69
abbrev szEventS.Ret (args : List AV) (r : AV) (frs : Fr) : Prop := Abs.Ret true Tryz.prog 69 args r frs
def szFact.code : ACode := (q_ (r_ [s 2 (.box (t 0)), s 4 (.mv (i_ 0))]) (q_ (r_ [v_ 5 1, s 6 (f_ 0 2), s 7 (l_ 6), s 8 (.len true (t 7)), s 9 (.bin .sub (t 5) (t 8)), v_ 1 9]) (q_ (q_ (r_ [v_ 10 1, s 11 (.bin .lss (t 10) (i_ 0))]) (.cond (t 11) (q_ (r_ [s 4 (.mv (.const (.int .i64 (-1))))]) .ret) .skip)) (q_ (r_ [s 12 (f_ 1 2), s 13 (l_ 12), v_ 14 1, s 15 (.call 151 [t 13, t 14]), v_ 1 15]) (q_ (q_ (r_ [v_ 16 1, s 17 (.bin .lss (t 16) (i_ 0))]) (.cond (t 17) (q_ (r_ [s 4 (.mv (.const (.int .i64 (-1))))]) .ret) .skip)) (q_ (r_ [v_ 18 1, v_ 4 18]) .ret))))))
theorem szFact.ir : IrAt Tryz.prog 92 szFact.code [0, 1, 2, 4] [.tmp 4] Tryz.f92.ntmps := ir_ Tryz.func92
abbrev szFact.Ret (args : List AV) (r : AV) (frs : Fr) : Prop := Abs.Ret true Tryz.prog 92 args r frs
def szFiring.code : ACode := (q_ (r_ [s 2 (.box (t 0)), s 4 (.mv (i_ 0))]) (q_ (r_ [v_ 5 1, s 6 (f_ 0 2), s 7 (l_ 6), s 8 (.len true (t 7)), s 9 (.bin .sub (t 5) (t 8)), v_ 1 9]) (q_ (q_ (r_ [v_ 10 1, s 11 (.bin .lss (t 10) (i_ 0))]) (.cond (t 11) (q_ (r_ [s 4 (.mv (.const (.int .i64 (-1))))]) .ret) .skip)) (q_ (r_ [s 12 (f_ 1 2), s 13 (l_ 12), v_ 14 1, s 15 (.call 177 [t 13, t 14]), v_ 1 15]) (q_ (q_ (r_ [v_ 16 1, s 17 (.bin .lss (t 16) (i_ 0))]) (.cond (t 17) (q_ (r_ [s 4 (.mv (.const (.int .i64 (-1))))]) .ret) .skip)) (q_ (r_ [v_ 18 1, v_ 4 18]) .ret))))))
theorem szFiring.ir : IrAt Tryz.prog 121 szFiring.code [0, 1, 2, 4] [.tmp 4] Tryz.f121.ntmps := ir_ Tryz.func121
abbrev szFiring.Ret (args : List AV) (r : AV) (frs : Fr) : Prop := Abs.Ret true Tryz.prog 121 args r frs
def szFiringS.code : ACode := (q_ (r_ [s 4 (.mv (i_ 0))]) (q_ (r_ [v_ 6 1, v_ 7 0, s 8 (.len false (t 7)), s 9 (.bin .sub (t 6) (t 8)), v_ 1 9]) (q_ (q_ (r_ [v_ 10 1, s 11 (.bin .lss (t 10) (i_ 0))]) (.cond (t 11) (q_ (r_ [s 4 (.mv (.const (.int .i64 (-1))))]) .ret) .skip)) (q_ (q_ (r_ [s 5 (.mv (i_ 0))]) (.block 0 (.loop (q_ (q_ (r_ [v_ 12 5, v_ 13 0, s 14 (.len false (t 13)), s 15 (.bin .lss (t 12) (t 14))]) (.cond (t 15) .skip (.exit 0))) (q_ (.block 1 (q_ (r_ [v_ 18 0, v_ 19 5, s 20 (.iadr 2 (t 18) (t 19)), s 21 (a_ 2 20), v_ 22 1, s 23 (.call 121 [t 21, t 22]), v_ 1 23]) (q_ (r_ [v_ 24 1, s 25 (.bin .lss (t 24) (i_ 0))]) (.cond (t 25) (q_ (r_ [s 4 (.mv (.const (.int .i64 (-1))))]) .ret) .skip)))) (r_ [v_ 16 5, s 17 (.bin .add (t 16) (i_ 1)), v_ 5 17])))))) (q_ (r_ [v_ 26 1, v_ 4 26]) .ret)))))
theorem szFiringS.ir : IrAt Tryz.prog 68 szFiringS.code [0, 1, 4, 5] [.tmp 4] Tryz.f68.ntmps := ir_ Tryz.func68
abbrev szFiringS.Ret (args : List AV) (r : AV) (frs : Fr) : Prop := Abs.Ret true Tryz.prog 68 args r frs
def szIntS.code : ACode := (q_ (r_ [s 4 (.mv (i_ 0))]) (q_ (r_ [v_ 5 1, v_ 6 0, s 7 (.len false (t 6)), s 8 (.bin .sub (t 5) (t 7)), v_ 1 8]) (q_ (q_ (r_ [v_ 9 1, s 10 (.bin .lss (t 9) (i_ 0))]) (.cond (t 10) (q_ (r_ [s 4 (.mv (.const (.int .i64 (-1))))]) .ret) .skip)) (q_ (r_ [v_ 11 1, v_ 4 11]) .ret))))
theorem szIntS.ir : IrAt Tryz.prog 177 szIntS.code [0, 1, 4] [.tmp 4] Tryz.f177.ntmps := ir_ Tryz.func177
abbrev szIntS.Ret (args : List AV) (r : AV) (frs : Fr) : Prop := Abs.Ret true Tryz.prog 177 args r frs
def szPattern.code : ACode := (q_ (r_ [s 2 (.box (t 0)), s 4 (.mv (i_ 0))]) (q_ (r_ [v_ 5 1, s 6 (f_ 0 2), s 7 (l_ 6), s 8 (.len true (t 7)), s 9 (.bin .sub (t 5) (t 8)), v_ 1 9]) (q_ (q_ (r_ [v_ 10 1, s 11 (.bin .lss (t 10) (i_ 0))]) (.cond (t 11) (q_ (r_ [s 4 (.mv (.const (.int .i64 (-1))))]) .ret) .skip)) (q_ (r_ [s 12 (f_ 1 2), s 13 (l_ 12), v_ 14 1, s 15 (.call 151 [t 13, t 14]), v_ 1 15]) (q_ (q_ (r_ [v_ 16 1, s 17 (.bin .lss (t 16) (i_ 0))]) (.cond (t 17) (q_ (r_ [s 4 (.mv (.const (.int .i64 (-1))))]) .ret) .skip)) (q_ (r_ [v_ 18 1, v_ 4 18]) .ret))))))
theorem szPattern.ir : IrAt Tryz.prog 193 szPattern.code [0, 1, 2, 4] [.tmp 4] Tryz.f193.ntmps := ir_ Tryz.func193
abbrev szPattern.Ret (args : List AV) (r : AV) (frs : Fr) : Prop := Abs.Ret true Tryz.prog 193 args r frs
def szRule.code : ACode := (q_ (r_ [s 2 (.box (t 0)), s 4 (.mv (i_ 0))]) (q_ (r_ [v_ 5 1, s 6 (f_ 0 2), s 7 (l_ 6), s 8 (.len true (t 7)), s 9 (.bin .sub (t 5) (t 8)), v_ 1 9]) (q_ (q_ (r_ [v_ 10 1, s 11 (.bin .lss (t 10) (i_ 0))]) (.cond (t 11) (q_ (r_ [s 4 (.mv (.const (.int .i64 (-1))))]) .ret) .skip)) (q_ (r_ [s 12 (f_ 2 2), s 13 (l_ 12), v_ 14 1, s 15 (.call 90 [t 13, t 14]), v_ 1 15]) (q_ (q_ (r_ [v_ 16 1, s 17 (.bin .lss (t 16) (i_ 0))]) (.cond (t 17) (q_ (r_ [s 4 (.mv (.const (.int .i64 (-1))))]) .ret) .skip)) (q_ (r_ [s 18 (f_ 3 2), s 19 (l_ 18), v_ 20 1, s 21 (.call 91 [t 19, t 20]), v_ 1 21]) (q_ (q_ (r_ [v_ 22 1, s 23 (.bin .lss (t 22) (i_ 0))]) (.cond (t 23) (q_ (r_ [s 4 (.mv (.const (.int .i64 (-1))))]) .ret) .skip)) (q_ (r_ [v_ 24 1, v_ 4 24]) .ret))))))))
theorem szRule.ir : IrAt Tryz.prog 32 szRule.code [0, 1, 2, 4] [.tmp 4] Tryz.f32.ntmps := ir_ Tryz.func32
abbrev szRule.Ret (args : List AV) (r : AV) (frs : Fr) : Prop := Abs.Ret true Tryz.prog 32 args r frs
def szRuleS.code : ACode := (q_ (r_ [s 4 (.mv (i_ 0))]) (q_ (r_ [v_ 6 1, v_ 7 0, s 8 (.len false (t 7)), s 9 (.bin .sub (t 6) (t 8)), v_ 1 9]) (q_ (q_ (r_ [v_ 10 1, s 11 (.bin .lss (t 10) (i_ 0))]) (.cond (t 11) (q_ (r_ [s 4 (.mv (.const (.int .i64 (-1))))]) .ret) .skip)) (q_ (q_ (r_ [s 5 (.mv (i_ 0))]) (.block 0 (.loop (q_ (q_ (r_ [v_ 12 5, v_ 13 0, s 14 (.len false (t 13)), s 15 (.bin .lss (t 12) (t 14))]) (.cond (t 15) .skip (.exit 0))) (q_ (.block 1 (q_ (r_ [v_ 18 0, v_ 19 5, s 20 (.iadr 4 (t 18) (t 19)), s 21 (a_ 4 20), v_ 22 1, s 23 (.call 32 [t 21, t 22]), v_ 1 23]) (q_ (r_ [v_ 24 1, s 25 (.bin .lss (t 24) (i_ 0))]) (.cond (t 25) (q_ (r_ [s 4 (.mv (.const (.int .i64 (-1))))]) .ret) .skip)))) (r_ [v_ 16 5, s 17 (.bin .add (t 16) (i_ 1)), v_ 5 17])))))) (q_ (r_ [v_ 26 1, v_ 4 26]) .ret)))))
theorem szRuleS.ir : IrAt Tryz.prog 6 szRuleS.code [0, 1, 4, 5] [.tmp 4] Tryz.f6.ntmps := ir_ Tryz.func6
abbrev szRuleS.Ret (args : List AV) (r : AV) (frs : Fr) : Prop := Abs.Ret true Tryz.prog 6 args r frs
def szStamp.code : ACode := (q_ (r_ [s 2 (.box (t 0)), s 4 (.mv (i_ 0))]) (q_ (r_ [s 5 (f_ 0 2), s 6 (a_ 2 5), v_ 7 1, s 8 (.call 92 [t 6, t 7]), v_ 1 8]) (q_ (q_ (r_ [v_ 9 1, s 10 (.bin .lss (t 9) (i_ 0))]) (.cond (t 10) (q_ (r_ [s 4 (.mv (.const (.int .i64 (-1))))]) .ret) .skip)) (q_ (r_ [v_ 11 1, v_ 4 11]) .ret))))
theorem szStamp.ir : IrAt Tryz.prog 33 szStamp.code [0, 1, 2, 4] [.tmp 4] Tryz.f33.ntmps := ir_ Tryz.func33
abbrev szStamp.Ret (args : List AV) (r : AV) (frs : Fr) : Prop := Abs.Ret true Tryz.prog 33 args r frs
def szStampS.code : ACode := (q_ (r_ [s 4 (.mv (i_ 0))]) (q_ (r_ [v_ 6 1, v_ 7 0, s 8 (.len false (t 7)), s 9 (.bin .sub (t 6) (t 8)), v_ 1 9]) (q_ (q_ (r_ [v_ 10 1, s 11 (.bin .lss (t 10) (i_ 0))]) (.cond (t 11) (q_ (r_ [s 4 (.mv (.const (.int .i64 (-1))))]) .ret) .skip)) (q_ (q_ (r_ [s 5 (.mv (i_ 0))]) (.block 0 (.loop (q_ (q_ (r_ [v_ 12 5, v_ 13 0, s 14 (.len false (t 13)), s 15 (.bin .lss (t 12) (t 14))]) (.cond (t 15) .skip (.exit 0))) (q_ (.block 1 (q_ (r_ [v_ 18 0, v_ 19 5, s 20 (.iadr 3 (t 18) (t 19)), s 21 (a_ 3 20), v_ 22 1, s 23 (.call 33 [t 21, t 22]), v_ 1 23]) (q_ (r_ [v_ 24 1, s 25 (.bin .lss (t 24) (i_ 0))]) (.cond (t 25) (q_ (r_ [s 4 (.mv (.const (.int .i64 (-1))))]) .ret) .skip)))) (r_ [v_ 16 5, s 17 (.bin .add (t 16) (i_ 1)), v_ 5 17])))))) (q_ (r_ [v_ 26 1, v_ 4 26]) .ret)))))
theorem szStampS.ir : IrAt Tryz.prog 7 szStampS.code [0, 1, 4, 5] [.tmp 4] Tryz.f7.ntmps := ir_ Tryz.func7
abbrev szStampS.Ret (args : List AV) (r : AV) (frs : Fr) : Prop := Abs.Ret true Tryz.prog 7 args r frs
def szStringS.code : ACode := (q_ (r_ [s 4 (.mv (i_ 0))]) (q_ (r_ [v_ 6 1, v_ 7 0, s 8 (.len false (t 7)), s 9 (.bin .sub (t 6) (t 8)), v_ 1 9]) (q_ (q_ (r_ [v_ 10 1, s 11 (.bin .lss (t 10) (i_ 0))]) (.cond (t 11) (q_ (r_ [s 4 (.mv (.const (.int .i64 (-1))))]) .ret) .skip)) (q_ (q_ (r_ [s 5 (.mv (i_ 0))]) (.block 0 (.loop (q_ (q_ (r_ [v_ 12 5, v_ 13 0, s 14 (.len false (t 13)), s 15 (.bin .lss (t 12) (t 14))]) (.cond (t 15) .skip (.exit 0))) (q_ (.block 1 (q_ (r_ [v_ 18 1, v_ 19 0, v_ 20 5, s 21 (.iadr 1 (t 19) (t 20)), s 22 (l_ 21), s 23 (.len true (t 22)), s 24 (.bin .sub (t 18) (t 23)), v_ 1 24]) (q_ (r_ [v_ 25 1, s 26 (.bin .lss (t 25) (i_ 0))]) (.cond (t 26) (q_ (r_ [s 4 (.mv (.const (.int .i64 (-1))))]) .ret) .skip)))) (r_ [v_ 16 5, s 17 (.bin .add (t 16) (i_ 1)), v_ 5 17])))))) (q_ (r_ [v_ 27 1, v_ 4 27]) .ret)))))
theorem szStringS.ir : IrAt Tryz.prog 151 szStringS.code [0, 1, 4, 5] [.tmp 4] Tryz.f151.ntmps := ir_ Tryz.func151
abbrev szStringS.Ret (args : List AV) (r : AV) (frs : Fr) : Prop := Abs.Ret true Tryz.prog 151 args r frs
def toAction.code : ACode := (q_ (r_ [s 1 (.box (t 0)), s 2 (.alloc [(.int .i64 (.ofNat 0)), (.string (.mk (.mk []))), (.slice none 0 0)])]) (q_ (r_ [s 3 (.alloc [(.int .i64 (.ofNat 0)), (.string (.mk (.mk []))), (.slice none 0 0)])]) (q_ (r_ [s 4 (f_ 0 1), s 5 (l_ 4), s 6 (f_ 0 3), ⟨none, none, (.store 1 (t 6) (t 5))⟩]) (q_ (r_ [s 7 (f_ 1 1), s 8 (a_ 2 7), s 9 (.call 202 [t 8]), s 10 (f_ 1 3), ⟨none, none, (.store 2 (t 10) (t 9))⟩]) (q_ (r_ [s 11 (a_ 3 3), ⟨none, none, (.store 3 (t 2) (t 11))⟩]) .ret)))))
theorem toAction.ir : IrAt Tryz.prog 165 toAction.code [0, 1, 2, 3] [.cell 2 true 3] Tryz.f165.ntmps := ir_ Tryz.func165
abbrev toAction.Ret (args : List AV) (r : AV) (frs : Fr) : Prop := Abs.Ret true Tryz.prog 165 args r frs
def toActionS.code : ACode := (q_ (r_ [s 2 (.mv (.const (.slice none 0 0)))]) (q_ (r_ [v_ 5 0, s 6 (.len false (t 5)), s 7 (.make 165 [(.int .i64 (.ofNat 0)), (.string (.mk (.mk []))), (.slice none 0 0)] 3 48 (t 6)), v_ 3 7]) (q_ (q_ (r_ [s 4 (.mv (i_ 0))]) (.block 0 (.loop (q_ (q_ (r_ [v_ 8 4, v_ 9 0, s 10 (.len false (t 9)), s 11 (.bin .lss (t 8) (t 10))]) (.cond (t 11) .skip (.exit 0))) (q_ (.block 1 (r_ [v_ 14 3, v_ 15 4, v_ 16 0, v_ 17 4, s 18 (.iadr 3 (t 16) (t 17)), s 19 (a_ 3 18), s 20 (.call 165 [t 19]), s 21 (.iadr 3 (t 14) (t 15)), ⟨none, none, (.store 3 (t 21) (t 20))⟩])) (r_ [v_ 12 4, s 13 (.bin .add (t 12) (i_ 1)), v_ 4 13])))))) (q_ (r_ [v_ 22 3, v_ 2 22]) .ret))))
theorem toActionS.ir : IrAt Tryz.prog 102 toActionS.code [0, 2, 3, 4] [.tmp 2] Tryz.f102.ntmps := ir_ Tryz.func102
abbrev toActionS.Ret (args : List AV) (r : AV) (frs : Fr) : Prop := Abs.Ret true Tryz.prog 102 args r frs
def toCond.code : ACode := (q_ (r_ [s 1 (.box (t 0)), s 2 (.alloc [(.int .i64 (.ofNat 0)), (.string (.mk (.mk []))), (.slice none 0 0), (.string (.mk (.mk []))), (.string (.mk (.mk [])))])]) (q_ (r_ [s 3 (.alloc [(.int .i64 (.ofNat 0)), (.string (.mk (.mk []))), (.slice none 0 0), (.string (.mk (.mk []))), (.string (.mk (.mk [])))])]) (q_ (r_ [s 4 (f_ 0 1), s 5 (l_ 4), s 6 (f_ 0 3), ⟨none, none, (.store 1 (t 6) (t 5))⟩]) (q_ (r_ [s 7 (f_ 1 1), s 8 (a_ 2 7), s 9 (.call 202 [t 8]), s 10 (f_ 1 3), ⟨none, none, (.store 2 (t 10) (t 9))⟩]) (q_ (r_ [s 11 (f_ 3 1), s 12 (l_ 11), s 13 (f_ 3 3), ⟨none, none, (.store 1 (t 13) (t 12))⟩]) (q_ (r_ [s 14 (f_ 4 1), s 15 (l_ 14), s 16 (f_ 4 3), ⟨none, none, (.store 1 (t 16) (t 15))⟩]) (q_ (r_ [s 17 (a_ 5 3), ⟨none, none, (.store 5 (t 2) (t 17))⟩]) .ret)))))))
theorem toCond.ir : IrAt Tryz.prog 164 toCond.code [0, 1, 2, 3] [.cell 2 true 5] Tryz.f164.ntmps := ir_ Tryz.func164
abbrev toCond.Ret (args : List AV) (r : AV) (frs : Fr) : Prop := Abs.Ret true Tryz.prog 164 args r frs
def toCondS.code : ACode := (q_ (r_ [s 2 (.mv (.const (.slice none 0 0)))]) (q_ (r_ [v_ 5 0, s 6 (.len false (t 5)), s 7 (.make 150 [(.int .i64 (.ofNat 0)), (.string (.mk (.mk []))), (.slice none 0 0), (.string (.mk (.mk []))), (.string (.mk (.mk [])))] 5 80 (t 6)), v_ 3 7]) (q_ (q_ (r_ [s 4 (.mv (i_ 0))]) (.block 0 (.loop (q_ (q_ (r_ [v_ 8 4, v_ 9 0, s 10 (.len false (t 9)), s 11 (.bin .lss (t 8) (t 10))]) (.cond (t 11) .skip (.exit 0))) (q_ (.block 1 (r_ [v_ 14 3, v_ 15 4, v_ 16 0, v_ 17 4, s 18 (.iadr 5 (t 16) (t 17)), s 19 (a_ 5 18), s 20 (.call 164 [t 19]), s 21 (.iadr 5 (t 14) (t 15)), ⟨none, none, (.store 5 (t 21) (t 20))⟩])) (r_ [v_ 12 4, s 13 (.bin .add (t 12) (i_ 1)), v_ 4 13])))))) (q_ (r_ [v_ 22 3, v_ 2 22]) .ret))))
theorem toCondS.ir : IrAt Tryz.prog 101 toCondS.code [0, 2, 3, 4] [.tmp 2] Tryz.f101.ntmps := ir_ Tryz.func101
abbrev toCondS.Ret (args : List AV) (r : AV) (frs : Fr) : Prop := Abs.Ret true Tryz.prog 101 args r frs
def toEngine.code : ACode := (q_ (r_ [s 1 (.box (t 0)), s 2 (.alloc [(.slice none 0 0), (.slice none 0 0), (.int .i64 (.ofNat 0)), (.slice none 0 0), (.bool false), (.slice none 0 0)])]) (q_ (r_ [s 3 (.alloc [(.slice none 0 0), (.slice none 0 0), (.int .i64 (.ofNat 0)), (.slice none 0 0), (.bool false), (.slice none 0 0)])]) (q_ (r_ [s 4 (f_ 0 1), s 5 (l_ 4), s 6 (.call 10 [t 5]), s 7 (f_ 0 3), ⟨none, none, (.store 1 (t 7) (t 6))⟩]) (q_ (r_ [s 8 (f_ 1 1), s 9 (l_ 8), s 10 (.call 11 [t 9]), s 11 (f_ 1 3), ⟨none, none, (.store 1 (t 11) (t 10))⟩]) (q_ (r_ [s 12 (f_ 2 1), s 13 (l_ 12), s 14 (f_ 2 3), ⟨none, none, (.store 1 (t 14) (t 13))⟩]) (q_ (r_ [s 15 (f_ 3 1), s 16 (l_ 15), s 17 (.call 74 [t 16]), s 18 (f_ 3 3), ⟨none, none, (.store 1 (t 18) (t 17))⟩]) (q_ (r_ [s 19 (f_ 4 1), s 20 (l_ 19), s 21 (f_ 4 3), ⟨none, none, (.store 1 (t 21) (t 20))⟩]) (q_ (r_ [s 22 (f_ 5 1), s 23 (l_ 22), s 24 (.call 75 [t 23]), s 25 (f_ 5 3), ⟨none, none, (.store 1 (t 25) (t 24))⟩]) (q_ (r_ [s 26 (a_ 6 3), ⟨none, none, (.store 6 (t 2) (t 26))⟩]) .ret)))))))))
theorem toEngine.ir : IrAt Tryz.prog 25 toEngine.code [0, 1, 2, 3] [.cell 2 true 6] Tryz.f25.ntmps := ir_ Tryz.func25
abbrev toEngine.Own (args : List AV) (x : Tr) : Prop := Abs.Own true Tryz.prog 25 args x
abbrev toEngine.Ret (args : List AV) (r : AV) (frs : Fr) : Prop := Abs.Ret true Tryz.prog 25 args r frs
def toEvent.code : ACode := (q_ (r_ [s 1 (.box (t 0)), s 2 (.alloc [(.int .i64 (.ofNat 0)), (.string (.mk (.mk []))), (.string (.mk (.mk []))), (.slice none 0 0)])]) (q_ (r_ [s 3 (.alloc [(.int .i64 (.ofNat 0)), (.string (.mk (.mk []))), (.string (.mk (.mk []))), (.slice none 0 0)])]) (q_ (r_ [s 4 (f_ 0 1), s 5 (l_ 4), s 6 (f_ 0 3), ⟨none, none, (.store 1 (t 6) (t 5))⟩]) (q_ (r_ [s 7 (f_ 1 1), s 8 (l_ 7), s 9 (f_ 1 3), ⟨none, none, (.store 1 (t 9) (t 8))⟩]) (q_ (r_ [s 10 (f_ 2 1), s 11 (a_ 2 10), s 12 (.call 103 [t 11]), s 13 (f_ 2 3), ⟨none, none, (.store 2 (t 13) (t 12))⟩]) (q_ (r_ [s 14 (a_ 4 3), ⟨none, none, (.store 4 (t 2) (t 14))⟩]) .ret))))))
theorem toEvent.ir : IrAt Tryz.prog 128 toEvent.code [0, 1, 2, 3] [.cell 2 true 4] Tryz.f128.ntmps := ir_ Tryz.func128
abbrev toEvent.Ret (args : List AV) (r : AV) (frs : Fr) : Prop := Abs.Ret true Tryz.prog 128 args r frs
def toEventS.code : ACode := (q_ (r_ [s 2 (.mv (.const (.slice none 0 0)))]) (q_ (r_ [v_ 5 0, s 6 (.len false (t 5)), s 7 (.make 124 [(.int .i64 (.ofNat 0)), (.string (.mk (.mk []))), (.string (.mk (.mk []))), (.slice none 0 0)] 4 64 (t 6)), v_ 3 7]) (q_ (q_ (r_ [s 4 (.mv (i_ 0))]) (.block 0 (.loop (q_ (q_ (r_ [v_ 8 4, v_ 9 0, s 10 (.len false (t 9)), s 11 (.bin .lss (t 8) (t 10))]) (.cond (t 11) .skip (.exit 0))) (q_ (.block 1 (r_ [v_ 14 3, v_ 15 4, v_ 16 0, v_ 17 4, s 18 (.iadr 4 (t 16) (t 17)), s 19 (a_ 4 18), s 20 (.call 128 [t 19]), s 21 (.iadr 4 (t 14) (t 15)), ⟨none, none, (.store 4 (t 21) (t 20))⟩])) (r_ [v_ 12 4, s 13 (.bin .add (t 12) (i_ 1)), v_ 4 13])))))) (q_ (r_ [v_ 22 3, v_ 2 22]) .ret))))
theorem toEventS.ir : IrAt Tryz.prog 75 toEventS.code [0, 2, 3, 4] [.tmp 2] Tryz.f75.ntmps := ir_ Tryz.func75
abbrev toEventS.Ret (args : List AV) (r : AV) (frs : Fr) : Prop := Abs.Ret true Tryz.prog 75 args r frs
def toFact.code : ACode := (q_ (r_ [s 1 (.box (t 0)), s 2 (.alloc [(.string (.mk (.mk []))), (.slice none 0 0)])]) (q_ (r_ [s 3 (.alloc [(.string (.mk (.mk []))), (.slice none 0 0)])]) (q_ (r_ [s 4 (f_ 0 1), s 5 (l_ 4), s 6 (f_ 0 3), ⟨none, none, (.store 1 (t 6) (t 5))⟩]) (q_ (r_ [s 7 (f_ 1 1), s 8 (l_ 7), s 9 (.call 166 [t 8]), s 10 (f_ 1 3), ⟨none, none, (.store 1 (t 10) (t 9))⟩]) (q_ (r_ [s 11 (a_ 2 3), ⟨none, none, (.store 2 (t 2) (t 11))⟩]) .ret)))))
theorem toFact.ir : IrAt Tryz.prog 103 toFact.code [0, 1, 2, 3] [.cell 2 true 2] Tryz.f103.ntmps := ir_ Tryz.func103
abbrev toFact.Ret (args : List AV) (r : AV) (frs : Fr) : Prop := Abs.Ret true Tryz.prog 103 args r frs
def toFiring.code : ACode := (q_ (r_ [s 1 (.box (t 0)), s 2 (.alloc [(.string (.mk (.mk []))), (.slice none 0 0)])]) (q_ (r_ [s 3 (.alloc [(.string (.mk (.mk []))), (.slice none 0 0)])]) (q_ (r_ [s 4 (f_ 0 1), s 5 (l_ 4), s 6 (f_ 0 3), ⟨none, none, (.store 1 (t 6) (t 5))⟩]) (q_ (r_ [s 7 (f_ 1 1), s 8 (l_ 7), s 9 (.call 178 [t 8]), s 10 (f_ 1 3), ⟨none, none, (.store 1 (t 10) (t 9))⟩]) (q_ (r_ [s 11 (a_ 2 3), ⟨none, none, (.store 2 (t 2) (t 11))⟩]) .ret)))))
theorem toFiring.ir : IrAt Tryz.prog 127 toFiring.code [0, 1, 2, 3] [.cell 2 true 2] Tryz.f127.ntmps := ir_ Tryz.func127
abbrev toFiring.Ret (args : List AV) (r : AV) (frs : Fr) : Prop := Abs.Ret true Tryz.prog 127 args r frs
def toFiringS.code : ACode := (q_ (r_ [s 2 (.mv (.const (.slice none 0 0)))]) (q_ (r_ [v_ 5 0, s 6 (.len false (t 5)), s 7 (.make 120 [(.string (.mk (.mk []))), (.slice none 0 0)] 2 40 (t 6)), v_ 3 7]) (q_ (q_ (r_ [s 4 (.mv (i_ 0))]) (.block 0 (.loop (q_ (q_ (r_ [v_ 8 4, v_ 9 0, s 10 (.len false (t 9)), s 11 (.bin .lss (t 8) (t 10))]) (.cond (t 11) .skip (.exit 0))) (q_ (.block 1 (r_ [v_ 14 3, v_ 15 4, v_ 16 0, v_ 17 4, s 18 (.iadr 2 (t 16) (t 17)), s 19 (a_ 2 18), s 20 (.call 127 [t 19]), s 21 (.iadr 2 (t 14) (t 15)), ⟨none, none, (.store 2 (t 21) (t 20))⟩])) (r_ [v_ 12 4, s 13 (.bin .add (t 12) (i_ 1)), v_ 4 13])))))) (q_ (r_ [v_ 22 3, v_ 2 22]) .ret))))
theorem toFiringS.ir : IrAt Tryz.prog 74 toFiringS.code [0, 2, 3, 4] [.tmp 2] Tryz.f74.ntmps := ir_ Tryz.func74
abbrev toFiringS.Ret (args : List AV) (r : AV) (frs : Fr) : Prop := Abs.Ret true Tryz.prog 74 args r frs
def toIntS.code : ACode := (q_ (r_ [s 2 (.mv (.const (.slice none 0 0)))]) (q_ (r_ [v_ 5 0, s 6 (.len false (t 5)), s 7 (.make 3 [(.int .i64 (.ofNat 0))] 1 8 (t 6)), v_ 3 7]) (q_ (q_ (r_ [s 4 (.mv (i_ 0))]) (.block 0 (.loop (q_ (q_ (r_ [v_ 8 4, v_ 9 0, s 10 (.len false (t 9)), s 11 (.bin .lss (t 8) (t 10))]) (.cond (t 11) .skip (.exit 0))) (q_ (.block 1 (r_ [v_ 14 3, v_ 15 4, v_ 16 0, v_ 17 4, s 18 (.iadr 1 (t 16) (t 17)), s 19 (l_ 18), s 20 (.iadr 1 (t 14) (t 15)), ⟨none, none, (.store 1 (t 20) (t 19))⟩])) (r_ [v_ 12 4, s 13 (.bin .add (t 12) (i_ 1)), v_ 4 13])))))) (q_ (r_ [v_ 21 3, v_ 2 21]) .ret))))
theorem toIntS.ir : IrAt Tryz.prog 178 toIntS.code [0, 2, 3, 4] [.tmp 2] Tryz.f178.ntmps := ir_ Tryz.func178
abbrev toIntS.Ret (args : List AV) (r : AV) (frs : Fr) : Prop := Abs.Ret true Tryz.prog 178 args r frs
def toPattern.code : ACode := (q_ (r_ [s 1 (.box (t 0)), s 2 (.alloc [(.string (.mk (.mk []))), (.slice none 0 0)])]) (q_ (r_ [s 3 (.alloc [(.string (.mk (.mk []))), (.slice none 0 0)])]) (q_ (r_ [s 4 (f_ 0 1), s 5 (l_ 4), s 6 (f_ 0 3), ⟨none, none, (.store 1 (t 6) (t 5))⟩]) (q_ (r_ [s 7 (f_ 1 1), s 8 (l_ 7), s 9 (.call 166 [t 8]), s 10 (f_ 1 3), ⟨none, none, (.store 1 (t 10) (t 9))⟩]) (q_ (r_ [s 11 (a_ 2 3), ⟨none, none, (.store 2 (t 2) (t 11))⟩]) .ret)))))
theorem toPattern.ir : IrAt Tryz.prog 202 toPattern.code [0, 1, 2, 3] [.cell 2 true 2] Tryz.f202.ntmps := ir_ Tryz.func202
abbrev toPattern.Ret (args : List AV) (r : AV) (frs : Fr) : Prop := Abs.Ret true Tryz.prog 202 args r frs
def toRule.code : ACode := (q_ (r_ [s 1 (.box (t 0)), s 2 (.alloc [(.string (.mk (.mk []))), (.int .i64 (.ofNat 0)), (.slice none 0 0), (.slice none 0 0)])]) (q_ (r_ [s 3 (.alloc [(.string (.mk (.mk []))), (.int .i64 (.ofNat 0)), (.slice none 0 0), (.slice none 0 0)])]) (q_ (r_ [s 4 (f_ 0 1), s 5 (l_ 4), s 6 (f_ 0 3), ⟨none, none, (.store 1 (t 6) (t 5))⟩]) (q_ (r_ [s 7 (f_ 1 1), s 8 (l_ 7), s 9 (f_ 1 3), ⟨none, none, (.store 1 (t 9) (t 8))⟩]) (q_ (r_ [s 10 (f_ 2 1), s 11 (l_ 10), s 12 (.call 101 [t 11]), s 13 (f_ 2 3), ⟨none, none, (.store 1 (t 13) (t 12))⟩]) (q_ (r_ [s 14 (f_ 3 1), s 15 (l_ 14), s 16 (.call 102 [t 15]), s 17 (f_ 3 3), ⟨none, none, (.store 1 (t 17) (t 16))⟩]) (q_ (r_ [s 18 (a_ 4 3), ⟨none, none, (.store 4 (t 2) (t 18))⟩]) .ret)))))))
theorem toRule.ir : IrAt Tryz.prog 43 toRule.code [0, 1, 2, 3] [.cell 2 true 4] Tryz.f43.ntmps := ir_ Tryz.func43
abbrev toRule.Ret (args : List AV) (r : AV) (frs : Fr) : Prop := Abs.Ret true Tryz.prog 43 args r frs
def toRuleS.code : ACode := (q_ (r_ [s 2 (.mv (.const (.slice none 0 0)))]) (q_ (r_ [v_ 5 0, s 6 (.len false (t 5)), s 7 (.make 93 [(.string (.mk (.mk []))), (.int .i64 (.ofNat 0)), (.slice none 0 0), (.slice none 0 0)] 4 72 (t 6)), v_ 3 7]) (q_ (q_ (r_ [s 4 (.mv (i_ 0))]) (.block 0 (.loop (q_ (q_ (r_ [v_ 8 4, v_ 9 0, s 10 (.len false (t 9)), s 11 (.bin .lss (t 8) (t 10))]) (.cond (t 11) .skip (.exit 0))) (q_ (.block 1 (r_ [v_ 14 3, v_ 15 4, v_ 16 0, v_ 17 4, s 18 (.iadr 4 (t 16) (t 17)), s 19 (a_ 4 18), s 20 (.call 43 [t 19]), s 21 (.iadr 4 (t 14) (t 15)), ⟨none, none, (.store 4 (t 21) (t 20))⟩])) (r_ [v_ 12 4, s 13 (.bin .add (t 12) (i_ 1)), v_ 4 13])))))) (q_ (r_ [v_ 22 3, v_ 2 22]) .ret))))
theorem toRuleS.ir : IrAt Tryz.prog 10 toRuleS.code [0, 2, 3, 4] [.tmp 2] Tryz.f10.ntmps := ir_ Tryz.func10
abbrev toRuleS.Ret (args : List AV) (r : AV) (frs : Fr) : Prop := Abs.Ret true Tryz.prog 10 args r frs
def toStamp.code : ACode := (q_ (r_ [s 1 (.box (t 0)), s 2 (.alloc [(.string (.mk (.mk []))), (.slice none 0 0), (.int .i64 (.ofNat 0))])]) (q_ (r_ [s 3 (.alloc [(.string (.mk (.mk []))), (.slice none 0 0), (.int .i64 (.ofNat 0))])]) (q_ (r_ [s 4 (f_ 0 1), s 5 (a_ 2 4), s 6 (.call 103 [t 5]), s 7 (f_ 0 3), ⟨none, none, (.store 2 (t 7) (t 6))⟩]) (q_ (r_ [s 8 (f_ 2 1), s 9 (l_ 8), s 10 (f_ 2 3), ⟨none, none, (.store 1 (t 10) (t 9))⟩]) (q_ (r_ [s 11 (a_ 3 3), ⟨none, none, (.store 3 (t 2) (t 11))⟩]) .ret)))))
theorem toStamp.ir : IrAt Tryz.prog 44 toStamp.code [0, 1, 2, 3] [.cell 2 true 3] Tryz.f44.ntmps := ir_ Tryz.func44
abbrev toStamp.Ret (args : List AV) (r : AV) (frs : Fr) : Prop := Abs.Ret true Tryz.prog 44 args r frs
def toStampS.code : ACode := (q_ (r_ [s 2 (.mv (.const (.slice none 0 0)))]) (q_ (r_ [v_ 5 0, s 6 (.len false (t 5)), s 7 (.make 98 [(.string (.mk (.mk []))), (.slice none 0 0), (.int .i64 (.ofNat 0))] 3 48 (t 6)), v_ 3 7]) (q_ (q_ (r_ [s 4 (.mv (i_ 0))]) (.block 0 (.loop (q_ (q_ (r_ [v_ 8 4, v_ 9 0, s 10 (.len false (t 9)), s 11 (.bin .lss (t 8) (t 10))]) (.cond (t 11) .skip (.exit 0))) (q_ (.block 1 (r_ [v_ 14 3, v_ 15 4, v_ 16 0, v_ 17 4, s 18 (.iadr 3 (t 16) (t 17)), s 19 (a_ 3 18), s 20 (.call 44 [t 19]), s 21 (.iadr 3 (t 14) (t 15)), ⟨none, none, (.store 3 (t 21) (t 20))⟩])) (r_ [v_ 12 4, s 13 (.bin .add (t 12) (i_ 1)), v_ 4 13])))))) (q_ (r_ [v_ 22 3, v_ 2 22]) .ret))))
theorem toStampS.ir : IrAt Tryz.prog 11 toStampS.code [0, 2, 3, 4] [.tmp 2] Tryz.f11.ntmps := ir_ Tryz.func11
abbrev toStampS.Ret (args : List AV) (r : AV) (frs : Fr) : Prop := Abs.Ret true Tryz.prog 11 args r frs
def toStringS.code : ACode := (q_ (r_ [s 2 (.mv (.const (.slice none 0 0)))]) (q_ (r_ [v_ 5 0, s 6 (.len false (t 5)), s 7 (.make 9 [(.string (.mk (.mk [])))] 1 16 (t 6)), v_ 3 7]) (q_ (q_ (r_ [s 4 (.mv (i_ 0))]) (.block 0 (.loop (q_ (q_ (r_ [v_ 8 4, v_ 9 0, s 10 (.len false (t 9)), s 11 (.bin .lss (t 8) (t 10))]) (.cond (t 11) .skip (.exit 0))) (q_ (.block 1 (r_ [v_ 14 3, v_ 15 4, v_ 16 0, v_ 17 4, s 18 (.iadr 1 (t 16) (t 17)), s 19 (l_ 18), s 20 (.iadr 1 (t 14) (t 15)), ⟨none, none, (.store 1 (t 20) (t 19))⟩])) (r_ [v_ 12 4, s 13 (.bin .add (t 12) (i_ 1)), v_ 4 13])))))) (q_ (r_ [v_ 21 3, v_ 2 21]) .ret))))
theorem toStringS.ir : IrAt Tryz.prog 166 toStringS.code [0, 2, 3, 4] [.tmp 2] Tryz.f166.ntmps := ir_ Tryz.func166
abbrev toStringS.Ret (args : List AV) (r : AV) (frs : Fr) : Prop := Abs.Ret true Tryz.prog 166 args r frs
end Go.Proofs.YtiloafmpienmhaaGreat
namespace Go.Proofs.YtiloafmpienmhaaGreat
open Abs
def part (z : List AV) (xs : List (List AV)) (i : Nat) : List AV := (xs.take i).flatten ++ (List.replicate (xs.length - i) z).flatten
theorem setAt_mid {α : Type} : ∀ (x a b c : List α), b.length = x.length → setAt (a ++ b ++ c) a.length x = a ++ x ++ c
  | [], a, b, c, h => by cases b with
    | nil => rfl
    | cons _ _ => simp at h
  | y :: x, a, b, c, h => by
    cases b with
    | nil => simp at h
    | cons b0 b =>
      have h1 : (a ++ b0 :: b ++ c).set a.length y = (a ++ [y]) ++ b ++ c := by simp
      have h2 : a.length + 1 = (a ++ [y]).length := by simp
      rw [setAt, h1, h2, setAt_mid x (a ++ [y]) b c (by simpa using h)]
      simp
theorem part_set {z : List AV} {xs : List (List AV)} {i sz : Nat} (hz : z.length = sz) (hx : ∀ x ∈ xs, x.length = sz) {x : List AV} (hi : xs[i]? = some x) : setAt (part z xs i) (i * sz) x = part z xs (i + 1) := by
  have hlt := getElem?_lt hi
  have h1 : (xs.take i).flatten.length = i * sz := by rw [length_flatten' sz _ (fun x h => hx x (List.mem_of_mem_take h)), List.length_take]; congr 1; omega
  obtain ⟨k, hk⟩ : ∃ k, xs.length - i = k + 1 := ⟨xs.length - i - 1, by omega⟩
  have hk2 : xs.length - (i + 1) = k := by omega
  have h2 : part z xs i = (xs.take i).flatten ++ z ++ (List.replicate k z).flatten := by
    rw [part, hk, List.replicate_succ, List.flatten_cons, List.append_assoc]
  have h3 : xs.take (i + 1) = xs.take i ++ [x] := by rw [List.take_add_one, hi]; rfl
  rw [h2, ← h1, setAt_mid _ _ _ _ (by rw [hz, hx x (List.mem_of_getElem? hi)]), part, hk2, h3]
  simp
theorem part_made {z : List Value} {xs : List (List AV)} {sz m : Nat} (hz : z.length = sz) (hp : 0 < sz) (hm : m = xs.length * sz) : madeK z m = part (z.map constAV) xs 0 := by
  subst hm
  have h1 : (List.replicate xs.length (z.map constAV)).flatten.length = xs.length * sz := by rw [length_flatten' sz]; · simp
                                                                                             · intro x hx; rw [List.eq_of_mem_replicate hx]; simp [hz]
  apply List.ext_getElem?
  intro i
  by_cases hi : i < xs.length * sz
  · have hq : i / sz < xs.length := (Nat.div_lt_iff_lt_mul hp).2 hi
    have hr : i % sz < sz := Nat.mod_lt _ hp
    have hf := flatten_get sz (List.replicate xs.length (z.map constAV)) (i / sz) (i % sz) (z.map constAV) (constAV (z.getD (i % sz) undef)) (fun x hx => by rw [List.eq_of_mem_replicate hx]; simp [hz]) (by simp [hq]) (by simp [hz, hr, List.getD])
    rw [show i / sz * sz + i % sz = i by rw [Nat.mul_comm]; exact Nat.div_add_mod _ _] at hf
    simp only [part, List.take_zero, List.flatten_nil, List.nil_append, Nat.sub_zero]
    rw [hf, madeK]
    simp [hi, hz]
  · rw [List.getElem?_eq_none (by simp [madeK]; omega)]
    simp only [part, List.take_zero, List.flatten_nil, List.nil_append, Nat.sub_zero]
    rw [List.getElem?_eq_none (by rw [h1]; omega)]
theorem part_all (z : List AV) (xs : List (List AV)) : part z xs xs.length = xs.flatten := by simp [part]
theorem part_len {z : List AV} {xs : List (List AV)} {i sz : Nat} (hz : z.length = sz) (hx : ∀ x ∈ xs, x.length = sz) (hi : i ≤ xs.length) : (part z xs i).length = xs.length * sz := by
  rw [part, List.length_append, length_flatten' sz _ (fun x h => hx x (List.mem_of_mem_take h)), length_flatten' sz _ (fun x h => by rw [List.eq_of_mem_replicate h]; exact hz), List.length_take, List.length_replicate, ← Nat.add_mul]
  congr 1; omega
theorem strs_get {l : List Str} {i : Nat} (hi : i < l.length) : (strs l)[i]? = some [.str (l.getD i [])] := by simp [strs_eq, List.getD, hi]
theorem toStringS.ret (l : List Str) (hl : l.length ≤ 1048576) : toStringS.Ret [.list none (strs l)] (.list (some 0) (strs l)) [(9, 1, l.length)] := by
  refine toStringS.ir.of rfl ?_
  repeat' first
    | (conv => whnf
       first | refine Need.fin ?_)
  refine ALoop.mk Nat (fun i => ⟨[(0, .list none (strs l)), (3, .bsl 0 l.length), (4, .val (.int .i64 i))], [.cells (.row 9 1) (part [.str []] (strs l) i)], []⟩) (fun i => i ≤ l.length) (fun i => l.length - i) ⟨0, Nat.zero_le _, ?_⟩ (fun i hi => ?_)
  · repeat' first
      | exact trivial | refine wl_ ?_ ?_ ?_ ?_ | refine And.intro ?_ ?_ | with_reducible rfl | exact ble_ | refine AV.int_congr ?_ | refine AV.list_congr ?_ | refine AV.bsl_congr ?_ ?_ | (apply rfl)
    · simp
    · simp only [List.nil_append, List.length_cons, List.length_nil, List.take_succ_cons, List.take_zero]
      rw [part_made (xs := strs l) (sz := 1) rfl (by decide) (by simp)]; rfl
  repeat' first
    | (conv => whnf
       first | refine Need.mk rfl ?_ | refine Need.fin ?_ | refine Need.mk ?_ ?_ | refine Ix.strsF rfl ?_ | refine Fork.dec (fun _ => ?_) (fun _ => ?_) | refine Round.mk ?_ | refine LitO.own rfl ?_)
  · rename_i h
    rw [length_strs] at h
    rw [part_len (sz := 1) rfl (strs_sz l) (by simp; exact hi), Int.toNat_natCast, length_strs]
    exact ⟨rfl, by omega⟩
  · rename_i h
    rw [length_strs] at h
    refine ⟨i + 1, by omega, ?_, by omega⟩
    repeat' first
      | exact trivial | refine wl_ ?_ ?_ ?_ ?_ | refine And.intro ?_ ?_ | with_reducible rfl | exact ble_ | refine AV.int_congr ?_ | refine AV.list_congr ?_ | refine AV.bsl_congr ?_ ?_
    · rw [wrap64 (by omega) (by omega)]; rfl
    · simp only [Int.toNat_natCast]
      have := part_set (z := [.str []]) (sz := 1) rfl (strs_sz l) (strs_get (l := l) (i := i) (by omega))
      simp only [List.set_cons_zero, List.take_succ_cons, List.take_zero, List.length_cons, List.length_nil, this]
  · rename_i h
    rw [length_strs] at h
    conv => whnf
    have : i = l.length := by omega
    subst this
    refine FreezeD.flat (Freeze.mk (strs l) _ 9 1 rfl (by have := part_all [.str []] (strs l); rwa [length_strs] at this) (by simp) (strs_sz l) (fun c hc => ?_) ?_)
    · have e := part_all [.str []] (strs l)
      rw [length_strs] at e
      rw [e, List.mem_flatten] at hc
      obtain ⟨x, hx, hc⟩ := hc
      rw [strs_eq] at hx
      obtain ⟨s, _, rfl⟩ := List.mem_map.1 hx
      simp at hc; subst hc; rfl
    · exact Final.mk rfl rfl
theorem own_strs (fr : Fr) : ∀ l : List Str, OwnA fr (l.map sq).flatten (strs l).flatten []
  | [] => .nil
  | s :: l => .s s (own_strs fr l)
theorem eqStringS.ret (l m : List Str) (hl : l.length ≤ 1099511627776) : eqStringS.Ret [.list none (strs l), .list none (strs m)] (.val (.bool (decide (l = m)))) [] := by
  refine eqStringS.ir.of rfl ?_
  repeat' first
    | (conv => whnf
       first | refine Need.mk rfl ?_ | refine Fork.bne (fun _ => ?_) (fun _ => ?_) | refine LitO.own rfl ?_ | refine FinVal.keep ?_ | refine Final.mk ?_ rfl)
    | refine AV.bool_congr ?_
  · rename_i h
    rw [length_strs, length_strs] at h
    have h3 : ¬ l = m := fun e => h (by rw [e])
    simp [h3]
  rename_i h
  rw [length_strs, length_strs] at h
  have h : l.length = m.length := by omega
  skip
  refine ALoop.mk Nat (fun i => ⟨[(0, .list none (strs l)), (1, .list none (strs m)), (5, .val (.int .i64 i))], [], []⟩) (fun i => i ≤ l.length ∧ l.take i = m.take i) (fun i => l.length - i) ⟨0, ⟨Nat.zero_le _, rfl⟩, ?_⟩ (fun i hi => ?_)
  · repeat' first
      | exact trivial | refine wl_ ?_ ?_ ?_ ?_ | refine And.intro ?_ ?_ | with_reducible rfl | exact ble_ | refine AV.int_congr ?_ | refine AV.list_congr ?_ | (apply rfl)
  repeat' first
    | (conv => whnf
       first | refine Need.mk rfl ?_ | refine Ix.strsF rfl ?_ | refine Fork.dec (fun _ => ?_) (fun _ => ?_) | refine Fork.sne (fun _ => ?_) (fun _ => ?_) | refine Round.mk ?_ | refine LitO.own rfl ?_ | refine FinVal.keep ?_ | refine Final.mk ?_ rfl)
    | refine AV.bool_congr ?_
  · rename_i h1 h2
    have h3 : ¬ l = m := fun e => h2 (by rw [e])
    simp [h3]
  · rename_i h1 h2
    rw [length_strs] at h1
    refine ⟨i + 1, ⟨by omega, ?_⟩, ?_, by omega⟩
    · rw [take_succ' [] (by omega), take_succ' (l := m) [] (by omega), hi.2]
      rw [Int.toNat_natCast] at h2
      have h2' : l.getD i [] = m.getD i [] := h2
      rw [h2']
    · repeat' first
        | exact trivial | refine wl_ ?_ ?_ ?_ ?_ | refine And.intro ?_ ?_ | with_reducible rfl | exact ble_ | refine AV.int_congr ?_ | refine AV.list_congr ?_ | (apply rfl)
      rw [wrap64 (by omega) (by omega)]; rfl
  · rename_i h1
    rw [length_strs] at h1
    have h2 := hi.2
    rw [List.take_of_length_le (by omega), List.take_of_length_le (by omega)] at h2
    simp [h2]
def szL : List Str → Nat
  | [] => 0
  | s :: l => s.length + szL l
def szT (l : List Str) : Nat := l.length + szL l
theorem szL_take_succ {l : List Str} {i : Nat} (hi : i < l.length) : szL (l.take (i + 1)) = szL (l.take i) + (l.getD i []).length := by
  induction l generalizing i with
  | nil => simp at hi
  | cons s l ih =>
    cases i with
    | zero => simp [szL]
    | succ i => simp only [List.take_succ_cons, szL, ih (show i < l.length by simpa using hi)]; simp [Nat.add_assoc]
theorem szL_le_take (l : List Str) (i : Nat) : szL (l.take i) ≤ szL l := by
  induction l generalizing i with
  | nil => simp [szL]
  | cons s l ih => cases i with
    | zero => simp [szL]
    | succ i => simp only [List.take_succ_cons, szL]; have := ih i; omega
def left (a : Int) (n : Nat) : Int := if a - n < 0 then -1 else a - n
theorem left_eq {a : Int} {n : Nat} {x : Int} (h : (x = -1 ∧ a < n) ∨ (x = a - n ∧ ¬ a < n)) : x = left a n := by unfold left; split <;> omega
theorem szStringS.ret (l : List Str) (a : Int) (h0 : 0 ≤ a) (ha : a ≤ 1048576) (hl : l.length ≤ 9223372036854775807) (hs : ∀ s ∈ l, s.length ≤ 9223372036854775807) :
    szStringS.Ret [.list none (strs l), .val (.int .i64 a)] (.val (.int .i64 (left a (szT l)))) [] := by
  refine szStringS.ir.of rfl ?_
  have hw : IntKind.i64.wrap (a - ((strs l).length : Int)) = a - l.length := by rw [length_strs]; exact wrap64 (by omega) (by omega)
  repeat' first
    | (conv => whnf
       first | refine Need.mk rfl ?_ | refine Fork.dec (fun _ => ?_) (fun _ => ?_) | refine LitO.own rfl ?_ | refine FinVal.keep ?_ | refine Final.mk ?_ rfl)
    | refine AV.int_congr ?_
  · rename_i h
    rw [hw] at h
    rw [left, if_pos (by unfold szT; omega)]
  rename_i h
  rw [hw] at h
  skip
  refine ALoop.mk Nat (fun i => ⟨[(0, .list none (strs l)), (1, .val (.int .i64 (a - l.length - szL (l.take i)))), (5, .val (.int .i64 i))], [], []⟩) (fun i => i ≤ l.length ∧ (0 : Int) ≤ a - l.length - szL (l.take i)) (fun i => l.length - i) ⟨0, ⟨Nat.zero_le _, by simp [szL]; omega⟩, ?_⟩ (fun i hi => ?_)
  · repeat' first
      | exact trivial | refine wl_ ?_ ?_ ?_ ?_ | refine And.intro ?_ ?_ | with_reducible rfl | exact ble_ | refine AV.int_congr ?_ | refine AV.list_congr ?_ | (apply rfl)
    rw [hw]; simp [szL]
  obtain ⟨hp1, hp2⟩ := hi
  have hg : ∀ i, (l.getD i []).length ≤ 9223372036854775807 := fun i => by
    rcases Nat.lt_or_ge i l.length with h | h
    · simp only [List.getD, List.getElem?_eq_getElem h, Option.getD_some]; exact hs _ (List.getElem_mem h)
    · simp [List.getD, List.getElem?_eq_none h]
  repeat' first
    | (conv => whnf
       first | refine Need.mk rfl ?_ | refine Ix.strsF rfl ?_ | refine Fork.dec (fun _ => ?_) (fun _ => ?_) | refine Round.mk ?_ | refine LitO.own rfl ?_ | refine FinVal.keep ?_ | refine Final.mk ?_ rfl)
    | refine AV.int_congr ?_
  · rename_i h1 h2
    rw [length_strs] at h1
    have h4 := hg i
    have h3 := szL_take_succ (l := l) (i := i) (by omega)
    have h5 := szL_le_take l (i + 1)
    change IntKind.i64.wrap (a - ↑l.length - ↑(szL (l.take i)) - ((l.getD i []).length : Int)) < 0 at h2
    rw [wrap64 (by omega) (by omega)] at h2
    rw [left, if_pos (by unfold szT; omega)]
  · rename_i h1 h2
    rw [length_strs] at h1
    have h4 := hg i
    have h3 := szL_take_succ (l := l) (i := i) (by omega)
    change ¬ IntKind.i64.wrap (a - ↑l.length - ↑(szL (l.take i)) - ((l.getD i []).length : Int)) < 0 at h2
    rw [wrap64 (by omega) (by omega)] at h2
    refine ⟨i + 1, ⟨by omega, by omega⟩, ?_, by omega⟩
    repeat' first
      | exact trivial | refine wl_ ?_ ?_ ?_ ?_ | refine And.intro ?_ ?_ | with_reducible rfl | exact ble_ | refine AV.int_congr ?_ | refine AV.list_congr ?_ | (apply rfl)
    · change IntKind.i64.wrap (a - ↑l.length - ↑(szL (l.take i)) - ((l.getD i []).length : Int)) = _
      rw [wrap64 (by omega) (by omega)]; omega
    · rw [wrap64 (by omega) (by omega)]; rfl
  · rename_i h1
    rw [length_strs] at h1
    rw [List.take_of_length_le (by omega)] at hp2 ⊢
    rw [left, if_neg (by unfold szT; omega)]; unfold szT; omega
end Go.Proofs.YtiloafmpienmhaaGreat
namespace Go.Proofs.YtiloafmpienmhaaGreat
open Abs
def digs : Nat → Nat → Str → Str
  | 0, _, a => a
  | n + 1, k, a => if k = 0 then a else digs n (k / 10) (UInt8.ofNat (48 + k % 10) :: a)
@[irreducible] def markF (k : Nat) : Str := if k = 0 then [109, 48] else 109 :: digs k k []
def markL (n k : Nat) : List Str := (List.range n).map fun i => markF (k + i)
@[simp] theorem length_markL (n k : Nat) : (markL n k).length = n := by simp [markL]
theorem gvLL_sq : ∀ (l : List Str) (n : Nat), gvLL (l.map sq) n = l.map AV.str
  | [], _ => rfl
  | s :: l, n => by simp [gvLL, sq, gvL, gv, gvLL_sq l]
theorem gbLL_sq : ∀ (l : List Str) (n : Nat), gbLL (l.map sq) n = []
  | [], _ => rfl
  | s :: l, n => by simp [gbLL, sq, gbL, gb, gbLL_sq l]
def strT (l : List Str) : Tr := .l 9 1 (l.map sq)
theorem gb_strT (l : List Str) (n : Nat) : gb (strT l) n = [.cells (.row 9 1) (l.map AV.str)] := by rw [strT, gb, gvLL_sq, gbLL_sq]
theorem gv_strT (l : List Str) (n : Nat) : gv (strT l) n = .bsl n l.length := by rw [strT, gv, List.length_map]
end Go.Proofs.YtiloafmpienmhaaGreat
namespace Go.Proofs.YtiloafmpienmhaaGreat
open Abs
def tStrs : Ty (List Str) := Ty.plain 9 Ty.str (fun _ => rfl) (fun _ => rfl)
abbrev Fct := Str × List Str
def tFct : Ty Fct := Ty.pair Ty.str tStrs
abbrev facts (l : List Fct) : List (List AV) := rows tFct l
theorem szT_eq (l : List Str) : szT l = tStrs.size l := by
  show szT l = l.length + listSize Ty.str l
  unfold szT
  congr 1
  induction l with
  | nil => rfl
  | cons s l ih => simp only [szL, listSize, ih]; rfl
theorem Abs.ACall.mkStrs {C : Con} {lend : Bool} {f : Nat} {vs : List AV} {b : List ABox} {fr : Fr} {k : AV → List ABox → Fr → Prop} (ys : List AV) (l : List Str) (h : C.ret f ys (.list (some 0) (strs l)) [(9, 1, l.length)]) (hv : SeesL Sees0 vs ys)
    (hk : k (.list (some fr.length) (strs l)) b (fr ++ [(9, 1, l.length)])) : ACall C lend f vs b fr k :=
  ACall.mkV tStrs ys l (fun n => .list (some n) (strs l)) (fun _ => rfl) h hv hk
theorem Abs.ACall.mkFct {C : Con} {lend : Bool} {f : Nat} {vs : List AV} {b : List ABox} {fr : Fr} {k : AV → List ABox → Fr → Prop} (ys : List AV) (a : Fct) (h : C.ret f ys (.agg (tFct.tk a 0)) (tFct.fr a)) (hv : SeesL Sees0 vs ys)
    (hk : k (.agg (tFct.tk a fr.length)) b (fr ++ tFct.fr a)) : ACall C lend f vs b fr k := ACall.mkA tFct ys a h hv hk
theorem tFct_size (f : Fct) : tFct.size f = f.1.length + tStrs.size f.2 := rfl
theorem tStrs_size (l : List Str) : tStrs.size l = l.length + listSize Ty.str l := rfl
theorem toFact.ret (f : Fct) (h : tFct.size f ≤ 1048576) : toFact.Ret [.agg (oldL (tFct.q f))] (.agg (tFct.tk f 0)) (tFct.fr f) := by
  refine toFact.ir.of rfl ?_
  rw [tFct_size, tStrs_size] at h
  repeat' first
    | (conv => whnf
       first | refine Need.mk ⟨rfl, Nat.le_of_ble_eq_true rfl⟩ ?_ | refine nb_ ?_ | refine FinAgg.keep ?_ | refine Final.mk rfl rfl | refine ACall.mkStrs _ _ (toStringS.ret _ ?_) (by repeat' first | exact SeesL.nil | refine SeesL.cons ?_ ?_ | exact SeesB.of0 (Sees0.val _) | exact SeesB.of0 (Sees0.str _) | exact SeesB.of0 (Sees0.olds _ _) | exact SeesB.of0 (Sees0.old _) | exact SeesB.of0 (Sees0.oldagg _) | exact SeesB.of0 Sees0.nil | exact Sees0.val _ | exact Sees0.str _ | exact Sees0.olds _ _ | exact Sees0.old _ | exact Sees0.oldagg _ | exact Sees0.nil | exact SeesB.of0 (Sees0.any _) | assumption | exact sees_gv _ _ _ (by assumption) (by first | assumption | exact BoxIn.last _ _ | exact BoxIn.more (BoxIn.last _ _) _) | refine SeesB.agg ?_ | refine Sees0.agg ?_ | exact SeesB.of0 (Sees0.clo SeesL.nil SeesL.nil) | exact Sees0.clo SeesL.nil SeesL.nil | exact SeesB.of0 (Sees0.list rfl) | exact Sees0.list rfl) ?_)
  omega
theorem szFact.ret (f : Fct) (a : Int) (h0 : 0 ≤ a) (ha : a ≤ 1048576) (hb : tFct.bd f) :
    szFact.Ret [.agg (oldL (tFct.q f)), .val (.int .i64 a)] (.val (.int .i64 (left a (tFct.size f)))) [] := by
  refine szFact.ir.of rfl ?_
  obtain ⟨h1, h2, hs⟩ := hb
  have h1 : f.1.length ≤ 9223372036854775807 := h1
  have hw : IntKind.i64.wrap (a - (f.1.length : Int)) = a - f.1.length := wrap64 (by omega) (by omega)
  have hz := tFct_size f
  have hz2 := szT_eq f.2
  repeat' first
    | (conv => whnf
       first | refine Need.mk rfl ?_ | refine Fork.dec (fun _ => ?_) (fun _ => ?_) | refine LitO.own rfl ?_ | refine FinVal.keep ?_ | refine Final.mk ?_ rfl | refine ACall.scalA _ _ (szStringS.ret _ _ ?_ ?_ ?_ ?_) rfl ?_)
    | refine AV.int_congr ?_
  all_goals rw [hw] at *
  all_goals first
    | assumption
    | omega
    | (unfold left at *; rw [hz, hz2] at *; split at * <;> (try split at *) <;> (try split) <;> omega)
end Go.Proofs.YtiloafmpienmhaaGreat
namespace Go.Proofs.YtiloafmpienmhaaGreat
open Abs
def tFcts : Ty (List Fct) := Ty.list 96 tFct
theorem tFcts_size (l : List Fct) : tFcts.size l = l.length + listSize tFct l := rfl
theorem facts_get {l : List Fct} {i : Nat} (hi : i < l.length) : l[i]? = some (l.getD i default) := by simp [List.getD, hi]
end Go.Proofs.YtiloafmpienmhaaGreat
namespace Go.Proofs.YtiloafmpienmhaaGreat
namespace Abs
mutual
def c1 : Tr → Nat
  | .v _ => 1
  | .s _ => 1
  | .l _ _ xs => cnLL xs
  | .a _ => 0
  | .p _ => 0
def cnC : List Tr → Nat
  | [] => 0
  | x :: xs => c1 x + cnC xs
def cnLL : List (List Tr) → Nat
  | [] => 0
  | x :: xs => cnC x + cnLL xs
end
mutual
def cn : Tr → Nat
  | .l _ _ xs => cnLL xs
  | .a fs => cnA fs
  | .p fs => cnA fs
  | .v _ => 0
  | .s _ => 0
def cnA : List Tr → Nat
  | [] => 0
  | x :: xs => cn x + cnA xs
end
mutual
def m1 : Tr → Nat → Tr
  | .v _, k => .v (.int .i64 k)
  | .s _, k => .s (markF k)
  | .l t sz xs, k => .l t sz (mkLL xs k)
  | .a fs, _ => .a fs
  | .p fs, _ => .p fs
def mkC : List Tr → Nat → List Tr
  | [], _ => []
  | x :: xs, k => m1 x k :: mkC xs (k + c1 x)
def mkLL : List (List Tr) → Nat → List (List Tr)
  | [], _ => []
  | x :: xs, k => mkC x k :: mkLL xs (k + cnC x)
end
mutual
def mk : Tr → Nat → Tr
  | .l t sz xs, k => .l t sz (mkLL xs k)
  | .a fs, k => .a (mkA fs k)
  | .p fs, k => .p (mkA fs k)
  | .v x, _ => .v x
  | .s x, _ => .s x
def mkA : List Tr → Nat → List Tr
  | [], _ => []
  | x :: xs, k => mk x k :: mkA xs (k + cn x)
end
theorem cnC_append : ∀ xs ys, cnC (xs ++ ys) = cnC xs + cnC ys
  | [], ys => by simp [cnC]
  | x :: xs, ys => by rw [List.cons_append, cnC, cnC_append xs, cnC, Nat.add_assoc]
theorem Sees0.cut {xs : List AV} {ys : List Tr} (h : xs = oldL ys) : Sees0 (.agg xs) (.agg (oldL ys)) := by subst h; exact Sees0.oldagg ys
theorem cons_congr {α : Type} {a b : α} {l m : List α} (h : a = b) (h' : l = m) : a :: l = b :: m := by rw [h, h']
theorem tok_congr {a b : Nat} {l m : List (List AV)} (h : a = b) (h' : l = m) : AV.list (some a) l = AV.list (some b) m := by rw [h, h']
def CnB {α : Type} (T : Ty α) (w : Nat) : Prop := ∀ a, cnC (T.q a) ≤ w * (1 + T.size a)
theorem CnB.str : CnB Ty.str 1 := fun a => by show 1 + 0 ≤ 1 * (1 + _); omega
theorem CnB.int : CnB Ty.int 1 := fun a => by show 1 + 0 ≤ 1 * (1 + _); omega
theorem CnB.bool : CnB Ty.bool 1 := fun a => by show 1 + 0 ≤ 1 * (1 + _); omega
theorem CnB.pair {α β : Type} {T : Ty α} {U : Ty β} {w v : Nat} (h : CnB T w) (g : CnB U v) : CnB (Ty.pair T U) (w + v) := fun a => by
  show cnC (T.q a.1 ++ U.q a.2) ≤ (w + v) * (1 + (T.size a.1 + U.size a.2))
  rw [cnC_append, Nat.add_mul]
  exact Nat.add_le_add (Nat.le_trans (h a.1) (Nat.mul_le_mul_left _ (by omega))) (Nat.le_trans (g a.2) (Nat.mul_le_mul_left _ (by omega)))
theorem CnB.rows {α : Type} {T : Ty α} {w : Nat} (h : CnB T w) : ∀ l : List α, cnLL (l.map T.q) ≤ w * (l.length + listSize T l)
  | [] => Nat.zero_le _
  | a :: l => by
    have h1 := h.rows l
    have h2 := h a
    rw [List.map_cons, cnLL, List.length_cons, listSize]
    refine Nat.le_trans (Nat.add_le_add h2 h1) ?_
    rw [← Nat.mul_add]
    exact Nat.mul_le_mul_left _ (by omega)
theorem CnB.cellsL {α : Type} {T : Ty α} {w : Nat} (h : CnB T w) (t sz : Nat) (l : List α) : cnC [.l t sz (l.map T.q)] ≤ w * (1 + (l.length + listSize T l)) := by
  show cnLL (l.map T.q) + 0 ≤ _
  exact Nat.le_trans (h.rows l) (Nat.mul_le_mul_left _ (by omega))
theorem CnB.list {α : Type} {T : Ty α} {w : Nat} (h : CnB T w) (t : Nat) : CnB (Ty.list t T) w := fun l => h.cellsL t T.sz l
theorem CnB.plain {α : Type} {T : Ty α} {w : Nat} (h : CnB T w) (t : Nat) (h1 h2) : CnB (Ty.plain t T h1 h2) w := fun l => h.cellsL t T.sz l
theorem CnB.l {α : Type} {T : Ty α} {w : Nat} (h : CnB T w) (t sz : Nat) (l : List α) : cn (.l t sz (l.map T.q)) ≤ w * (l.length + listSize T l) := h.rows l
theorem rowsP_tks {α : Type} (T : Ty α) (h : ∀ a, T.fr a = []) (e : ∀ a, T.tk a 0 = oldL (T.q a)) : ∀ l : List α, tks T l 0 = rows T l
  | [] => rfl
  | a :: l => by
    rw [tks, h, e]
    show _ :: tks T l (0 + 0) = _
    rw [Nat.add_zero, rowsP_tks T h e l]; rfl
end Abs
end Go.Proofs.YtiloafmpienmhaaGreat
namespace Go.Proofs.YtiloafmpienmhaaGreat
open Abs
theorem Abs.ACall.mk_StringS {C : Con} {lend : Bool} {f : Nat} {vs : List AV} {b : List ABox} {fr : Fr} {k : AV → List ABox → Fr → Prop} (ys : List AV) (l : List Str) (h : C.ret f ys (.list (some 0) (strs l)) [(9, 1, l.length)]) (hv : SeesL Sees0 vs ys)
    (hk : k (.list (some fr.length) (strs l)) b (fr ++ [(9, 1, l.length)])) : ACall C lend f vs b fr k := ACall.mkStrs ys l h hv hk
theorem eqStringS.big (l m : List Str) (h : tStrs.size l ≤ 1099511627775) : eqStringS.Ret [.list none (strs l), .list none (strs m)] (.val (.bool (decide (l = m)))) [] := eqStringS.ret l m (by rw [tStrs_size] at h; omega)
end Go.Proofs.YtiloafmpienmhaaGreat
namespace Go.Proofs.YtiloafmpienmhaaGreat
open Abs
theorem tFact_size (a : Fct) : tFct.size a = a.1.length + tStrs.size a.2 := rfl
theorem Abs.ACall.mk_Fact {C : Con} {lend : Bool} {f : Nat} {vs : List AV} {b : List ABox} {fr : Fr} {k : AV → List ABox → Fr → Prop} (ys : List AV) (a : Fct) (h : C.ret f ys (.agg (tFct.tk a 0)) (tFct.fr a)) (hv : SeesL Sees0 vs ys)
    (hk : k (.agg (tFct.tk a fr.length)) b (fr ++ tFct.fr a)) : ACall C lend f vs b fr k := ACall.mkA tFct ys a h hv hk
theorem eqFact.big (f g : Fct) (h : tFct.size f ≤ 1099511627775) : eqFact.Ret [.agg (oldL (tFct.q f)), .agg (oldL (tFct.q g))] (.val (.bool (decide (f = g)))) [] := by
  refine eqFact.ir.of rfl ?_
  have hz := tFact_size f
  repeat' first
    | (conv => whnf
       first | refine Fork.sne (fun _ => ?_) (fun _ => ?_) | refine Fork.neg (fun _ => ?_) (fun _ => ?_) | refine FinVal.keep ?_ | refine Final.mk ?_ rfl | refine ACall.scalA _ _ (eqStringS.big _ _ ?_) rfl ?_)
    | refine AV.bool_congr ?_
  all_goals first
    | omega
    | (simp only [tStrs_size, tInts_size] at *; omega)
    | (obtain ⟨x0, x1⟩ := f; obtain ⟨y0, y1⟩ := g; simp_all)
end Go.Proofs.YtiloafmpienmhaaGreat
namespace Go.Proofs.YtiloafmpienmhaaGreat
open Abs
abbrev VEvent := Int × Str × Fct
instance : DecidableEq VEvent := instDecidableEqProd
def tEvent : Ty VEvent := Ty.pair Ty.int (Ty.pair Ty.str tFct)
theorem tEvent_size (a : VEvent) : tEvent.size a = 0 + (a.2.1.length + tFct.size a.2.2) := rfl
def tEvents : Ty (List VEvent) := Ty.list 124 tEvent
theorem tEvents_sz (l : List VEvent) : tEvents.size l = l.length + listSize tEvent l := rfl
theorem tEvent_get {l : List VEvent} {i : Nat} (hi : i < l.length) : l[i]? = some (l.getD i default) := by simp [List.getD, hi]
theorem tEvent_le {l : List VEvent} {i : Nat} (hi : i < l.length) : tEvent.size (l.getD i default) ≤ listSize tEvent l := listSize_mem tEvent (List.mem_of_getElem? (tEvent_get hi))
theorem Abs.ACall.mk_Event {C : Con} {lend : Bool} {f : Nat} {vs : List AV} {b : List ABox} {fr : Fr} {k : AV → List ABox → Fr → Prop} (ys : List AV) (a : VEvent) (h : C.ret f ys (.agg (tEvent.tk a 0)) (tEvent.fr a)) (hv : SeesL Sees0 vs ys)
    (hk : k (.agg (tEvent.tk a fr.length)) b (fr ++ tEvent.fr a)) : ACall C lend f vs b fr k := ACall.mkA tEvent ys a h hv hk
theorem Abs.ACall.mk_EventS {C : Con} {lend : Bool} {f : Nat} {vs : List AV} {b : List ABox} {fr : Fr} {k : AV → List ABox → Fr → Prop} (ys : List AV) (l : List VEvent) (h : C.ret f ys (.list (some (0 + (frs tEvent l).length)) (tks tEvent l 0)) (tEvents.fr l)) (hv : SeesL Sees0 vs ys)
    (hk : k (.list (some (fr.length + (frs tEvent l).length)) (tks tEvent l fr.length)) b (fr ++ tEvents.fr l)) : ACall C lend f vs b fr k :=
  ACall.mkV tEvents ys l (fun n => .list (some (n + (frs tEvent l).length)) (tks tEvent l n)) (fun _ => rfl) h hv hk
theorem toEvent.ret (a : VEvent) (h : tEvent.size a ≤ 1048576) : toEvent.Ret [.agg (oldL (tEvent.q a))] (.agg (tEvent.tk a 0)) (tEvent.fr a) := by
  refine toEvent.ir.of rfl ?_
  rw [tEvent_size] at h
  repeat' first
    | (conv => whnf
       first | refine Need.mk ⟨rfl, Nat.le_of_ble_eq_true rfl⟩ ?_ | refine nb_ ?_ | refine FinAgg.keep ?_ | refine Final.mk rfl rfl | refine ACall.mk_Fact _ _ (toFact.ret _ ?_) (by repeat' first | exact SeesL.nil | refine SeesL.cons ?_ ?_ | exact SeesB.of0 (Sees0.val _) | exact SeesB.of0 (Sees0.str _) | exact SeesB.of0 (Sees0.olds _ _) | exact SeesB.of0 (Sees0.old _) | exact SeesB.of0 (Sees0.oldagg _) | exact SeesB.of0 Sees0.nil | exact Sees0.val _ | exact Sees0.str _ | exact Sees0.olds _ _ | exact Sees0.old _ | exact Sees0.oldagg _ | exact Sees0.nil | exact SeesB.of0 (Sees0.any _) | assumption | exact sees_gv _ _ _ (by assumption) (by first | assumption | exact BoxIn.last _ _ | exact BoxIn.more (BoxIn.last _ _) _) | refine SeesB.agg ?_ | refine Sees0.agg ?_ | exact SeesB.of0 (Sees0.clo SeesL.nil SeesL.nil) | exact Sees0.clo SeesL.nil SeesL.nil | exact SeesB.of0 (Sees0.list rfl) | exact Sees0.list rfl) ?_)
  all_goals first
    | omega
    | (refine congrArg AV.agg ?_
       repeat' first
         | refine cons_congr ?_ ?_
         | refine tok_congr ?_ ?_
         | refine congrArg (tks _ _) ?_
         | rfl
       all_goals (simp [Ty.pair, Ty.str, Ty.int, Ty.bool, Nat.add_assoc]; done))
    | (simp [tEvent, Ty.pair, Ty.str, Ty.int, Ty.bool, List.append_assoc, Nat.add_assoc]; done)
theorem szEvent.ret (f : VEvent) (a : Int) (h0 : 0 ≤ a) (ha : a ≤ 1048576) (hb : tEvent.bd f) :
    szEvent.Ret [.agg (oldL (tEvent.q f)), .val (.int .i64 a)] (.val (.int .i64 (left a (tEvent.size f)))) [] := by
  refine szEvent.ir.of rfl ?_
  have hz := tEvent_size f
  obtain ⟨hb0, hb1, hb2⟩ := hb
  have hb1 : f.2.1.length ≤ 9223372036854775807 := hb1
  by_cases c1 : a < (f.2.1.length : Int)
  · have e0 : IntKind.i64.wrap (a - (f.2.1.length : Int)) = a - (f.2.1.length : Int) := by rw [wrap64 (by omega) (by omega)]
    repeat' first
      | (conv => whnf
         first | refine Need.mk rfl ?_ | refine Fork.decYes (by omega) ?_ | refine LitO.own rfl ?_ | refine FinVal.keep ?_ | refine Final.mk ?_ rfl)
      | refine AV.int_congr ?_
    all_goals first
      | assumption
      | omega
      | exact left_eq (by omega)
  by_cases c2 : a < (f.2.1.length : Int) + (tFct.size f.2.2 : Int)
  · have e0 : IntKind.i64.wrap (a - (f.2.1.length : Int)) = a - (f.2.1.length : Int) := by rw [wrap64 (by omega) (by omega)]
    have e1 : left (IntKind.i64.wrap (a - (f.2.1.length : Int))) (tFct.size f.2.2) = -1 := by rw [e0, left, if_pos (by omega)]
    repeat' first
      | (conv => whnf
         first | refine Need.mk rfl ?_ | refine nb_ ?_ | refine Fork.decYes (by omega) ?_ | refine Fork.decNo (by omega) ?_ | refine LitO.own rfl ?_ | refine FinVal.keep ?_ | refine Final.mk ?_ rfl | refine ACall.scalA _ _ (szFact.ret _ _ ?_ ?_ ?_) rfl ?_)
      | refine AV.int_congr ?_
    all_goals first
      | assumption
      | omega
      | exact left_eq (by omega)
  have e0 : IntKind.i64.wrap (a - (f.2.1.length : Int)) = a - (f.2.1.length : Int) := by rw [wrap64 (by omega) (by omega)]
  have e1 : left (IntKind.i64.wrap (a - (f.2.1.length : Int))) (tFct.size f.2.2) = a - (f.2.1.length : Int) - (tFct.size f.2.2 : Int) := by rw [e0, left, if_neg (by omega)]
  repeat' first
    | (conv => whnf
       first | refine Need.mk rfl ?_ | refine nb_ ?_ | refine Fork.decNo (by omega) ?_ | refine LitO.own rfl ?_ | refine FinVal.keep ?_ | refine Final.mk ?_ rfl | refine ACall.scalA _ _ (szFact.ret _ _ ?_ ?_ ?_) rfl ?_)
    | refine AV.int_congr ?_
  all_goals first
    | assumption
    | omega
    | exact left_eq (by omega)
theorem eqEvent.big (f g : VEvent) (h : tEvent.size f ≤ 1099511627775) : eqEvent.Ret [.agg (oldL (tEvent.q f)), .agg (oldL (tEvent.q g))] (.val (.bool (decide (f = g)))) [] := by
  refine eqEvent.ir.of rfl ?_
  have hz := tEvent_size f
  repeat' first
    | (conv => whnf
       first | refine Need.mk rfl ?_ | refine nb_ ?_ | refine Fork.bne (fun _ => ?_) (fun _ => ?_) | refine Fork.sne (fun _ => ?_) (fun _ => ?_) | refine Fork.neg (fun _ => ?_) (fun _ => ?_) | refine LitO.own rfl ?_ | refine FinVal.keep ?_ | refine Final.mk ?_ rfl | refine ACall.scalA _ _ (eqFact.big _ _ ?_) rfl ?_)
    | refine AV.bool_congr ?_
  all_goals first
    | omega
    | (simp only [tStrs_size, tInts_size] at *; omega)
    | (obtain ⟨x0, x1, ⟨x20, x21⟩⟩ := f; obtain ⟨y0, y1, ⟨y20, y21⟩⟩ := g; simp_all)
theorem toEventS.ret (l : List VEvent) (h : tEvents.size l ≤ 1048576) : toEventS.Ret [.list none (rows tEvent l)] (.list (some (0 + (frs tEvent l).length)) (tks tEvent l 0)) (tEvents.fr l) := by
  refine toEventS.ir.of rfl ?_
  rw [tEvents_sz] at h
  repeat' first
    | (conv => whnf
       first | refine Need.fin ?_)
  refine ALoop.mk Nat (fun i => ⟨[(0, .list none (rows tEvent l)), (3, .bsl 0 l.length), (4, .val (.int .i64 i))], [.cells (.row 124 4) (part [.val (.int .i64 0), .str [], .str [], .val (.slice none 0 0)] (tks tEvent l 0) i)], frs tEvent (l.take i)⟩) (fun i => i ≤ l.length) (fun i => l.length - i) ⟨0, Nat.zero_le _, ?_⟩ (fun i hi => ?_)
  · repeat' first
      | exact trivial | refine wl_ ?_ ?_ ?_ ?_ | refine And.intro ?_ ?_ | with_reducible rfl | exact ble_ | refine AV.int_congr ?_ | refine AV.list_congr ?_ | refine AV.bsl_congr ?_ ?_ | (apply rfl)
    · simp
    · simp only [List.nil_append, List.length_cons, List.length_nil, List.take_succ_cons, List.take_zero]
      rw [part_made (xs := tks tEvent l 0) (sz := 4) rfl (by decide) (by simp [length_tks])]; rfl
  repeat' first
    | (conv => whnf
       first | refine Need.mk rfl ?_ | refine nb_ ?_ | refine Need.fin ?_ | refine Need.mk ?_ ?_ | refine Ix.mapF (fun _ => rfl) ?_ | refine Fork.dec (fun _ => ?_) (fun _ => ?_) | refine Round.mk ?_ | refine LitO.own rfl ?_ | refine ACall.mk_Event _ _ (toEvent.ret _ ?_) (by repeat' first | exact SeesL.nil | refine SeesL.cons ?_ ?_ | exact SeesB.of0 (Sees0.val _) | exact SeesB.of0 (Sees0.str _) | exact SeesB.of0 (Sees0.olds _ _) | exact SeesB.of0 (Sees0.old _) | exact SeesB.of0 (Sees0.oldagg _) | exact SeesB.of0 Sees0.nil | exact Sees0.val _ | exact Sees0.str _ | exact Sees0.olds _ _ | exact Sees0.old _ | exact Sees0.oldagg _ | exact Sees0.nil | exact SeesB.of0 (Sees0.any _) | assumption | exact sees_gv _ _ _ (by assumption) (by first | assumption | exact BoxIn.last _ _ | exact BoxIn.more (BoxIn.last _ _) _) | refine SeesB.agg ?_ | refine Sees0.agg ?_ | exact SeesB.of0 (Sees0.clo SeesL.nil SeesL.nil) | exact Sees0.clo SeesL.nil SeesL.nil | exact SeesB.of0 (Sees0.list rfl) | exact Sees0.list rfl) ?_)
  · rename_i h1
    rw [length_rows] at h1
    have := listSize_mem tEvent (List.mem_of_getElem? (tEvent_get (l := l) (i := i) (by omega)))
    rw [Int.toNat_natCast]; omega
  · rename_i h1
    rw [length_rows] at h1
    rw [part_len (sz := 4) rfl (tks_sz tEvent l 0) (by rw [length_tks]; exact hi), Int.toNat_natCast, length_tks]
    exact ⟨rfl, by omega⟩
  · rename_i h1
    rw [length_rows] at h1
    refine ⟨i + 1, by omega, ?_, by omega⟩
    repeat' first
      | exact trivial | refine wl_ ?_ ?_ ?_ ?_ | refine And.intro ?_ ?_ | with_reducible rfl | exact ble_ | refine AV.int_congr ?_ | refine AV.list_congr ?_ | refine AV.bsl_congr ?_ ?_
    · rw [wrap64 (by omega) (by omega)]; rfl
    · have := part_set (z := [.val (.int .i64 0), .str [], .str [], .val (.slice none 0 0)]) (sz := 4) rfl (tks_sz tEvent l 0) (tks_get tEvent 0 (tEvent_get (l := l) (i := i) (by omega)))
      rw [Nat.zero_add] at this
      simp only [List.set_cons_zero, List.take_succ_cons, List.take_zero, List.length_cons, List.length_nil, Int.toNat_natCast, this]
    · show frs tEvent (l.take i) ++ tEvent.fr (l.getD (i : Int).toNat default) = frs tEvent (l.take (i + 1))
      rw [Int.toNat_natCast, take_succ' default (by omega), frs_append]; simp [frs]
  · rename_i h1
    rw [length_rows] at h1
    conv => whnf
    have : i = l.length := by omega
    subst this
    have hall := part_all [.val (.int .i64 0), .str [], .str [], .val (.slice none 0 0)] (tks tEvent l 0)
    rw [length_tks] at hall
    refine FreezeD.flat (Freeze.mk (tks tEvent l 0) _ 124 4 rfl hall (length_tks _ _ _) (tks_sz tEvent l 0) (fun c hc => ?_) ?_)
    · rw [hall] at hc; exact tks_nr tEvent l 0 c hc
    · refine Final.mk ?_ ?_
      · rw [List.take_length, Nat.zero_add]
      · rw [List.take_length]; rfl
theorem szEventS.ret (l : List VEvent) (a : Int) (h0 : 0 ≤ a) (ha : a ≤ 1048576) (hb : tEvents.bd l) :
    szEventS.Ret [.list none (rows tEvent l), .val (.int .i64 a)] (.val (.int .i64 (left a (tEvents.size l)))) [] := by
  refine szEventS.ir.of rfl ?_
  obtain ⟨hl, hb⟩ := hb
  have hw : IntKind.i64.wrap (a - ((rows tEvent l).length : Int)) = a - l.length := by rw [length_rows]; exact wrap64 (by omega) (by omega)
  have hz := tEvents_sz l
  repeat' first
    | (conv => whnf
       first | refine Need.mk rfl ?_ | refine Fork.dec (fun _ => ?_) (fun _ => ?_) | refine LitO.own rfl ?_ | refine FinVal.keep ?_ | refine Final.mk ?_ rfl)
    | refine AV.int_congr ?_
  · rename_i h
    rw [hw] at h
    rw [left, if_pos (by omega)]
  rename_i h
  rw [hw] at h
  skip
  refine ALoop.mk Nat (fun i => ⟨[(0, .list none (rows tEvent l)), (1, .val (.int .i64 (a - l.length - listSize tEvent (l.take i)))), (5, .val (.int .i64 i))], [], []⟩) (fun i => i ≤ l.length ∧ (0 : Int) ≤ a - l.length - listSize tEvent (l.take i)) (fun i => l.length - i) ⟨0, ⟨Nat.zero_le _, by simp [listSize]; omega⟩, ?_⟩ (fun i hi => ?_)
  · repeat' first
      | exact trivial | refine wl_ ?_ ?_ ?_ ?_ | refine And.intro ?_ ?_ | with_reducible rfl | exact ble_ | refine AV.int_congr ?_ | refine AV.list_congr ?_ | (apply rfl)
    rw [hw]; simp [listSize]
  obtain ⟨hp1, hp2⟩ := hi
  have hle := listSize_take_le tEvent l (i + 1)
  have hbi : i < l.length → tEvent.bd (l.getD i default) := fun h => hb _ (List.mem_of_getElem? (tEvent_get h))
  have hsz : i < l.length → listSize tEvent (l.take (i + 1)) = listSize tEvent (l.take i) + tEvent.size (l.getD i default) := fun h => listSize_take_succ tEvent (tEvent_get h)
  repeat' first
    | (conv => whnf
       first | refine Need.mk rfl ?_ | refine nb_ ?_ | refine Ix.mapF (fun _ => rfl) ?_ | refine Fork.dec (fun _ => ?_) (fun _ => ?_) | refine Round.mk ?_ | refine LitO.own rfl ?_ | refine FinVal.keep ?_ | refine Final.mk ?_ rfl | refine ACall.scalA _ _ (szEvent.ret _ _ ?_ ?_ ?_) rfl ?_)
    | refine AV.int_congr ?_
  · exact hp2
  · omega
  · rename_i h1
    rw [length_rows] at h1
    rw [Int.toNat_natCast]; exact hbi (by omega)
  · rename_i h1 h2
    rw [length_rows] at h1
    rw [Int.toNat_natCast] at h2
    have := hsz (by omega)
    unfold left at h2 ⊢
    split at h2
    · rw [if_pos (by omega)]
    · omega
  · rename_i h1 h2
    rw [length_rows] at h1
    rw [Int.toNat_natCast] at h2
    have := hsz (by omega)
    have e : left (a - ↑l.length - ↑(listSize tEvent (l.take i))) (tEvent.size (l.getD i default)) = a - ↑l.length - ↑(listSize tEvent (l.take (i + 1))) := by
      unfold left at h2 ⊢
      split at h2
      · omega
      · rw [if_neg ‹_›]; omega
    refine ⟨i + 1, ⟨by omega, ?_⟩, ?_, by omega⟩
    · rw [← e]; omega
    · repeat' first
        | exact trivial | refine wl_ ?_ ?_ ?_ ?_ | refine And.intro ?_ ?_ | with_reducible rfl | exact ble_ | refine AV.int_congr ?_ | refine AV.list_congr ?_ | (apply rfl)
      · rw [Int.toNat_natCast]; exact e
      · rw [wrap64 (by omega) (by omega)]; rfl
  · rename_i h1
    rw [length_rows] at h1
    rw [List.take_of_length_le (by omega)] at hp2 ⊢
    rw [left, if_neg (by omega)]; omega
theorem eqEventS.big (l m : List VEvent) (h : tEvents.size l ≤ 1099511627775) : eqEventS.Ret [.list none (rows tEvent l), .list none (rows tEvent m)] (.val (.bool (decide (l = m)))) [] := by
  refine eqEventS.ir.of rfl ?_
  rw [tEvents_sz] at h
  repeat' first
    | (conv => whnf
       first | refine Need.mk rfl ?_ | refine Fork.bne (fun _ => ?_) (fun _ => ?_) | refine LitO.own rfl ?_ | refine FinVal.keep ?_ | refine Final.mk ?_ rfl)
    | refine AV.bool_congr ?_
  · rename_i h
    rw [length_rows, length_rows] at h
    have h3 : ¬ l = m := fun e => h (by rw [e])
    simp [h3]
  rename_i h
  rw [length_rows, length_rows] at h
  have h : l.length = m.length := by omega
  skip
  refine ALoop.mk Nat (fun i => ⟨[(0, .list none (rows tEvent l)), (1, .list none (rows tEvent m)), (5, .val (.int .i64 i))], [], []⟩) (fun i => i ≤ l.length ∧ l.take i = m.take i) (fun i => l.length - i) ⟨0, ⟨Nat.zero_le _, rfl⟩, ?_⟩ (fun i hi => ?_)
  · repeat' first
      | exact trivial | refine wl_ ?_ ?_ ?_ ?_ | refine And.intro ?_ ?_ | with_reducible rfl | exact ble_ | refine AV.int_congr ?_ | refine AV.list_congr ?_ | (apply rfl)
  repeat' first
    | (conv => whnf
       first | refine Need.mk rfl ?_ | refine nb_ ?_ | refine Ix.mapF (fun _ => rfl) ?_ | refine Fork.dec (fun _ => ?_) (fun _ => ?_) | refine Fork.neg (fun _ => ?_) (fun _ => ?_) | refine Round.mk ?_ | refine LitO.own rfl ?_ | refine FinVal.keep ?_ | refine Final.mk ?_ rfl | refine AQCall.mkA _ _ (fun hg => eqEvent.big _ _ ?_) rfl ?_)
    | refine AV.bool_congr ?_
  · rename_i h1
    rw [length_rows] at h1
    have := listSize_mem tEvent (List.mem_of_getElem? (tEvent_get (l := l) (i := i) (by omega)))
    rw [Int.toNat_natCast]; omega
  · rename_i h1 h2
    have h3 : ¬ l = m := fun e => of_decide_eq_false h2 (by rw [e])
    simp [h3]
  · rename_i h1 h2
    rw [length_rows] at h1
    rw [Int.toNat_natCast] at h2
    refine ⟨i + 1, ⟨by omega, ?_⟩, ?_, by omega⟩
    · rw [take_succ' default (by omega), take_succ' (l := m) default (by omega), hi.2, of_decide_eq_true h2]
    · repeat' first
        | exact trivial | refine wl_ ?_ ?_ ?_ ?_ | refine And.intro ?_ ?_ | with_reducible rfl | exact ble_ | refine AV.int_congr ?_ | refine AV.list_congr ?_ | (apply rfl)
      rw [wrap64 (by omega) (by omega)]; rfl
  · rename_i h1
    rw [length_rows] at h1
    have h2 := hi.2
    rw [List.take_of_length_le (by omega), List.take_of_length_le (by omega)] at h2
    simp [h2]
end Go.Proofs.YtiloafmpienmhaaGreat
namespace Go.Proofs.YtiloafmpienmhaaGreat
namespace Abs
theorem FinalC.all {Φ : AV → List ABox → Fr → Prop} {r : AV} {b : List ABox} {f : Fr} (h : Lends b b) (hk : Φ r b f) : FinalC Φ r b f := ⟨b, h, hk⟩
theorem FinalC.allA {Φ : AV → List ABox → Fr → Prop} {r : AV} {b : List ABox} {f : Fr} (hk : Φ r b f) (h : Lends b b := by repeat' first | exact Lends.nil | refine Lends.map _ ?_ | refine Lends.lend _ _ (by first | exact hx.1 | exact hy.1 | exact noTk_old _ | (intro c hc; rw [List.mem_singleton.1 hc]; rfl) | (intro c hc; cases hc; done)) ?_) : FinalC Φ r b f := ⟨b, h, hk⟩
section
variable {mo : Bool} {P : Program}
theorem own_post {B : Nat} {w' : World} {F' : Nat → Nat} {tok : List (Option Nat)} {box : List BId} {frs : Fr} {x : Tr} {r : AV} {v : Value} {ts : List Nat} (hrep : Rep B w' F' tok frs box r v) (ho : OwnA frs [x] [r] ts) (hn : ts.Nodup)
    (htin : ∀ (k b : Nat), tok[k]? = some (some b) → B ≤ b ∧ b < w'.heap.size) (htinj : ∀ (k l b : Nat), tok[k]? = some (some b) → tok[l]? = some (some b) → k = l) : ∃ ds, OwnL w' [x] [v] ds ∧ ds.Nodup ∧ ∀ d ∈ ds, B ≤ d ∧ d < w'.heap.size := by
  have hget : ∀ d, d ∈ ts.filterMap (fun k => (tok[k]?).join) → ∃ k ∈ ts, tok[k]? = some (some d) := fun d hd => by
    obtain ⟨k, hk, he⟩ := List.mem_filterMap.1 hd
    cases h : tok[k]? with
    | none => rw [h] at he; cases he
    | some o => rw [h] at he; cases o with
      | none => cases he
      | some b => cases he; exact ⟨k, hk, h⟩
  refine ⟨ts.filterMap fun k => (tok[k]?).join, ho.own (F := F') (box := box) (Both.cons.2 ⟨hrep, rfl, by simp⟩), ?_, fun d hd => ?_⟩
  · clear hrep ho
    induction ts with
    | nil => simp
    | cons k ts ih =>
      obtain ⟨n1, n2⟩ := List.nodup_cons.1 hn
      have hget' : ∀ d, d ∈ ts.filterMap (fun k => (tok[k]?).join) → ∃ k ∈ ts, tok[k]? = some (some d) := fun d hd => by
        obtain ⟨k, hk, he⟩ := List.mem_filterMap.1 hd
        cases h : tok[k]? with
        | none => rw [h] at he; cases he
        | some o => rw [h] at he; cases o with
          | none => cases he
          | some b => cases he; exact ⟨k, hk, h⟩
      rw [List.filterMap_cons]
      split
      · exact ih n2 hget'
      · rename_i b hb'
        refine List.nodup_cons.2 ⟨fun hm => ?_, ih n2 hget'⟩
        obtain ⟨k', hk', he'⟩ := hget' b hm
        have he : tok[k]? = some (some b) := by
          cases h : tok[k]? with
          | none => rw [h] at hb'; cases hb'
          | some o => rw [h] at hb'; cases o with
            | none => cases hb'
            | some b => cases hb'; rfl
        exact n1 (htinj k k' b he he' ▸ hk')
  · obtain ⟨k, _, hk⟩ := hget d hd
    exact htin k d hk
theorem Own.of_irP {fid : Nat} {fn : Func} {code : ACode} {rs : List RRes} {K : List Nat} {args : List AV} {x : Tr} (hf : P.funcs[fid]? = some fn) (hb : fn.body.isSome = true) (hm : (fn.name == "runtime.NumGoroutine") = false)
    (hn : args.length ≤ fn.ntmps) (hc : cCode P fn.ntmps (fn.body.getD .skip) = code) (hrs : fn.results.toList.map (cRes P) = rs)
    (h : aCode (Kn mo P) K 0 code (doneG rs fun r _ f => ∃ ts, OwnA f [x] [r] ts ∧ ts.Nodup) ⟨argEnv 0 args, [], []⟩) : Own mo P fid args x := by
  rw [Kn_eq] at h; rw [Own_eq]
  obtain ⟨c, hc'⟩ := Option.isSome_iff_exists.1 hb
  rw [hc', Option.getD_some] at hc
  rw [← hc, ← hrs] at h
  refine ⟨okFn_of hf hb hm, fun w F vs hcond hout hargs => (calls_of_code hf hc' hn K h w F vs hcond hout hargs).mono ?_⟩
  rintro e w' ⟨v, F', tok, box, r, b, frs, ⟨ts, ho, hnd⟩, rfl, hb, hold, ho', htl, htin, htinj, hrep⟩
  obtain ⟨ds, h1, h2, h3⟩ := own_post hrep ho hnd htin htinj
  exact ⟨v, ds, rfl, hb, h1, h2, h3⟩
theorem IrAt.ownP {P : Program} {k : Nat} {c : ACode} {K : List Nat} {rs : List RRes} {n : Nat} (q : IrAt P k c K rs n) {mo : Bool} {args : List AV} {x : Tr} (hn : Nat.ble args.length n = true) (h : aCode (Kn mo P) K 0 c (doneG rs fun r _ f => ∃ ts, OwnA f [x] [r] ts ∧ ts.Nodup) ⟨argEnv 0 args, [], []⟩) : Own mo P k args x := by
  obtain ⟨fn, h1, h2, h3, h4, h5, h6, _⟩ := q
  exact Own.of_irP h1 h2 h3 (h4 ▸ Nat.le_of_ble_eq_true hn) h5 h6 h
end
end Abs
open Abs
theorem strs_flatten (l : List Str) : (strs l).flatten = l.map .str := by
  rw [strs_eq]; induction l with
  | nil => rfl
  | cons s l ih => rw [List.map_cons, List.flatten_cons, ih]; rfl
theorem noTk_texts {l : List Str} : ∀ c ∈ l.map AV.str, noTk c = true := fun c hc => by obtain ⟨s, _, rfl⟩ := List.mem_map.1 hc; rfl
theorem str_le {l : List Str} {i : Nat} (hi : i < l.length) : (l.getD i []).length ≤ listSize Ty.str l :=
  listSize_mem Ty.str (List.mem_of_getElem? (by simp [List.getD, hi] : l[i]? = some (l.getD i [])))
end Go.Proofs.YtiloafmpienmhaaGreat
namespace Go.Proofs.YtiloafmpienmhaaGreat
open Abs
def l1In.code : ACode := (q_ (r_ [s 6 mf_]) (q_ (r_ [v_ 7 0, v_ 8 1, s 9 (.bin .geq (t 7) (t 8)), v_ 10 9, g 10 true 11 (.mv (t 0)), g 10 true 12 (.mv (t 2)), g 10 true 13 (.bin .leq (t 11) (t 12)), s 14 (.and (t 10) (t 13)), v_ 6 14]) .ret))
theorem l1In.ir : IrAt Tryz.prog 70 l1In.code [0, 1, 2, 6] [.tmp 6] Tryz.f70.ntmps := ir_ Tryz.func70
abbrev l1In.Ret (args : List AV) (r : AV) (frs : Fr) : Prop := Abs.Ret true Tryz.prog 70 args r frs
def isDigit.code : ACode := (q_ (r_ [s 2 mf_]) (q_ (r_ [v_ 3 0, s 4 (.bin .leq (.const (.int .i32 48)) (t 3)), v_ 5 4, g 5 true 6 (.mv (t 0)), g 5 true 7 (.bin .leq (t 6) (.const (.int .i32 57))), s 8 (.and (t 5) (t 7)), v_ 2 8]) .ret))
theorem isDigit.ir : IrAt Tryz.prog 217 isDigit.code [0, 2] [.tmp 2] Tryz.f217.ntmps := ir_ Tryz.func217
abbrev isDigit.Ret (args : List AV) (r : AV) (frs : Fr) : Prop := Abs.Ret true Tryz.prog 217 args r frs
def isLetter.code : ACode := (q_ (r_ [s 2 mf_]) (q_ (r_ [v_ 3 0, s 4 (.bin .leq (.const (.int .i32 97)) (t 3)), v_ 5 4, g 5 true 6 (.mv (t 0)), g 5 true 7 (.bin .leq (t 6) (.const (.int .i32 122))), s 8 (.and (t 5) (t 7)), v_ 2 8]) .ret))
theorem isLetter.ir : IrAt Tryz.prog 185 isLetter.code [0, 2] [.tmp 2] Tryz.f185.ntmps := ir_ Tryz.func185
abbrev isLetter.Ret (args : List AV) (r : AV) (frs : Fr) : Prop := Abs.Ret true Tryz.prog 185 args r frs
def sIsAtom.code : ACode := (q_ (r_ [s 2 mf_]) (q_ (q_ (r_ [s 3 (.mv (i_ 0))]) (.block 0 (.loop (q_ (q_ (r_ [v_ 4 3, v_ 5 0, s 6 (.len true (t 5)), s 7 (.bin .lss (t 4) (t 6))]) (.cond (t 7) .skip (.exit 0))) (q_ (.block 1 (q_ (r_ [v_ 10 0, v_ 11 3, s 12 (.index (t 10) (t 11)), s 13 (.conv .i64 (t 12)), s 14 (.call 70 [t 13, (i_ 97), (i_ 122)]), s 15 (.not (t 14)), v_ 16 15, g 16 true 17 (.mv (t 0)), g 16 true 18 (.mv (t 3)), g 16 true 19 (.index (t 17) (t 18)), g 16 true 20 (.conv .i64 (t 19)), g 16 true 21 (.call 70 [t 20, (i_ 48), (i_ 57)]), g 16 true 22 (.not (t 21)), s 23 (.and (t 16) (t 22))]) (.cond (t 23) (q_ (r_ [s 2 mf_]) .ret) .skip))) (r_ [v_ 8 3, s 9 (.bin .add (t 8) (i_ 1)), v_ 3 9])))))) (q_ (r_ [v_ 24 0, s 25 (.len true (t 24)), s 26 (.call 70 [t 25, (i_ 1), (i_ 8)]), v_ 2 26]) .ret)))
theorem sIsAtom.ir : IrAt Tryz.prog 100 sIsAtom.code [0, 2, 3] [.tmp 2] Tryz.f100.ntmps := ir_ Tryz.func100
abbrev sIsAtom.Ret (args : List AV) (r : AV) (frs : Fr) : Prop := Abs.Ret true Tryz.prog 100 args r frs
def pIsAtom.code : ACode := (q_ (r_ [s 2 mf_]) (q_ (q_ (r_ [v_ 5 0, s 6 (.bin .eql (t 5) (.const (.string (.mk #[])))), v_ 7 6, g 7 false 8 (.mv (t 0)), g 7 false 9 (.len true (t 8)), g 7 false 10 (.bin .gtr (t 9) (i_ 8)), s 11 (.or (t 7) (t 10))]) (.cond (t 11) (q_ (r_ [s 2 mf_]) .ret) .skip)) (q_ (q_ (r_ [v_ 12 0, s 13 (.range (t 12))]) (.block 0 (.loop (q_ (r_ [s 14 (.next (t 13)), s 15 (.extract (t 14) 0)]) (q_ (.cond (t 15) .skip (.exit 0)) (.block 1 (q_ (r_ [s 16 (.extract (t 14) 2), v_ 4 16]) (q_ (r_ [v_ 17 4, s 18 (.call 185 [t 17]), s 19 (.not (t 18)), v_ 20 19, g 20 true 21 (.mv (t 4)), g 20 true 22 (.call 217 [t 21]), g 20 true 23 (.not (t 22)), s 24 (.and (t 20) (t 23))]) (.cond (t 24) (q_ (r_ [s 2 mf_]) .ret) .skip))))))))) (q_ (r_ [s 2 mt_]) .ret))))
theorem pIsAtom.ir : IrAt Tryz.prog 172 pIsAtom.code [0, 2, 4, 13, 14, 15] [.tmp 2] Tryz.f172.ntmps := ir_ Tryz.func172
abbrev pIsAtom.Ret (args : List AV) (r : AV) (frs : Fr) : Prop := Abs.Ret true Tryz.prog 172 args r frs
def sIsName.code : ACode := (q_ (r_ [s 2 mf_]) (q_ (r_ [v_ 3 0, s 4 (.call 100 [t 3]), v_ 5 4, g 5 true 6 (.mv (t 0)), g 5 true 7 (.index (t 6) (i_ 0)), g 5 true 8 (.conv .i64 (t 7)), g 5 true 9 (.call 70 [t 8, (i_ 97), (i_ 122)]), s 10 (.and (t 5) (t 9)), v_ 2 10]) .ret))
theorem sIsName.ir : IrAt Tryz.prog 126 sIsName.code [0, 2] [.tmp 2] Tryz.f126.ntmps := ir_ Tryz.func126
abbrev sIsName.Ret (args : List AV) (r : AV) (frs : Fr) : Prop := Abs.Ret true Tryz.prog 126 args r frs
def pIsName.code : ACode := (q_ (r_ [s 2 mf_]) (q_ (r_ [v_ 3 0, s 4 (.call 172 [t 3]), v_ 5 4, g 5 true 6 (.mv (t 0)), g 5 true 7 (.index (t 6) (i_ 0)), g 5 true 8 (.conv .i32 (t 7)), g 5 true 9 (.call 185 [t 8]), s 10 (.and (t 5) (t 9)), v_ 2 10]) .ret))
theorem pIsName.ir : IrAt Tryz.prog 134 pIsName.code [0, 2] [.tmp 2] Tryz.f134.ntmps := ir_ Tryz.func134
abbrev pIsName.Ret (args : List AV) (r : AV) (frs : Fr) : Prop := Abs.Ret true Tryz.prog 134 args r frs
def sIsVar.code : ACode := (q_ (r_ [s 2 mf_]) (q_ (r_ [v_ 3 0, s 4 (.len true (t 3)), s 5 (.bin .gtr (t 4) (i_ 1)), v_ 6 5, g 6 true 7 (.mv (t 0)), g 6 true 8 (.index (t 7) (i_ 0)), g 6 true 9 (.bin .eql (t 8) (.const (.int .u8 63))), s 10 (.and (t 6) (t 9)), v_ 11 10, g 11 true 12 (.mv (t 0)), g 11 true 13 (.slice true 0 (t 12) (some (i_ 1)) none), g 11 true 14 (.call 100 [t 13]), s 15 (.and (t 11) (t 14)), v_ 2 15]) .ret))
theorem sIsVar.ir : IrAt Tryz.prog 198 sIsVar.code [0, 2] [.tmp 2] Tryz.f198.ntmps := ir_ Tryz.func198
abbrev sIsVar.Ret (args : List AV) (r : AV) (frs : Fr) : Prop := Abs.Ret true Tryz.prog 198 args r frs
def pIsVar.code : ACode := (q_ (r_ [s 2 mf_]) (q_ (r_ [v_ 6 0, s 7 (.call 249 [t 6, (.const (.string (.mk #[63])))]), v_ 5 7, s 8 (.extract (t 5) 0), s 9 (.extract (t 5) 1), v_ 3 8, v_ 4 9]) (q_ (r_ [v_ 10 4, v_ 11 10, g 11 true 12 (.mv (t 3)), g 11 true 13 (.call 172 [t 12]), s 14 (.and (t 11) (t 13)), v_ 2 14]) .ret)))
theorem pIsVar.ir : IrAt Tryz.prog 243 pIsVar.code [0, 2, 3, 4] [.tmp 2] Tryz.f243.ntmps := ir_ Tryz.func243
abbrev pIsVar.Ret (args : List AV) (r : AV) (frs : Fr) : Prop := Abs.Ret true Tryz.prog 243 args r frs
def sIsTerm.code : ACode := (q_ (r_ [s 2 mf_]) (q_ (r_ [v_ 3 0, s 4 (.call 100 [t 3]), v_ 5 4, g 5 false 6 (.mv (t 0)), g 5 false 7 (.call 198 [t 6]), s 8 (.or (t 5) (t 7)), v_ 2 8]) .ret))
theorem sIsTerm.ir : IrAt Tryz.prog 197 sIsTerm.code [0, 2] [.tmp 2] Tryz.f197.ntmps := ir_ Tryz.func197
abbrev sIsTerm.Ret (args : List AV) (r : AV) (frs : Fr) : Prop := Abs.Ret true Tryz.prog 197 args r frs
def pIsTerm.code : ACode := (q_ (r_ [s 2 mf_]) (q_ (r_ [v_ 3 0, s 4 (.call 172 [t 3]), v_ 5 4, g 5 false 6 (.mv (t 0)), g 5 false 7 (.call 243 [t 6]), s 8 (.or (t 5) (t 7)), v_ 2 8]) .ret))
theorem pIsTerm.ir : IrAt Tryz.prog 239 pIsTerm.code [0, 2] [.tmp 2] Tryz.f239.ntmps := ir_ Tryz.func239
abbrev pIsTerm.Ret (args : List AV) (r : AV) (frs : Fr) : Prop := Abs.Ret true Tryz.prog 239 args r frs
def cutPrefix.code : ACode := (q_ (r_ [s 4 (.mv (.const (.string (.mk #[])))), s 5 mf_]) (q_ (r_ [v_ 6 0, v_ 7 1, s 8 (.call 264 [t 6, t 7]), s 9 (.extract (t 8) 0), s 10 (.extract (t 8) 1), v_ 4 9, v_ 5 10]) .ret))
theorem cutPrefix.ir : IrAt Tryz.prog 249 cutPrefix.code [0, 1, 4, 5] [.tmp 4, .tmp 5] Tryz.f249.ntmps := ir_ Tryz.func249
abbrev cutPrefix.Ret (args : List AV) (r : AV) (frs : Fr) : Prop := Abs.Ret true Tryz.prog 249 args r frs
def slCutPrefix.code : ACode := (q_ (r_ [s 4 (.mv (.const (.string (.mk #[])))), s 5 mf_]) (q_ (q_ (r_ [v_ 6 0, v_ 7 1, s 8 (.call 270 [t 6, t 7]), s 9 (.not (t 8))]) (.cond (t 9) (q_ (r_ [v_ 10 0, v_ 4 10, s 5 mf_]) .ret) .skip)) (q_ (r_ [v_ 11 0, v_ 12 1, s 13 (.len true (t 12)), s 14 (.slice true 0 (t 11) (some (t 13)) none), v_ 4 14, s 5 mt_]) .ret)))
theorem slCutPrefix.ir : IrAt Tryz.prog 264 slCutPrefix.code [0, 1, 4, 5] [.tmp 4, .tmp 5] Tryz.f264.ntmps := ir_ Tryz.func264
abbrev slCutPrefix.Ret (args : List AV) (r : AV) (frs : Fr) : Prop := Abs.Ret true Tryz.prog 264 args r frs
def slHasPrefix.code : ACode := (q_ (r_ [s 4 mf_]) (q_ (r_ [v_ 5 0, s 6 (.len true (t 5)), v_ 7 1, s 8 (.len true (t 7)), s 9 (.bin .geq (t 6) (t 8)), v_ 10 9, g 10 true 11 (.mv (t 0)), g 10 true 12 (.mv (t 1)), g 10 true 13 (.len true (t 12)), g 10 true 14 (.slice true 0 (t 11) none (some (t 13))), g 10 true 15 (.mv (t 1)), g 10 true 16 (.bin .eql (t 14) (t 15)), s 17 (.and (t 10) (t 16)), v_ 4 17]) .ret))
theorem slHasPrefix.ir : IrAt Tryz.prog 270 slHasPrefix.code [0, 1, 4] [.tmp 4] Tryz.f270.ntmps := ir_ Tryz.func270
abbrev slHasPrefix.Ret (args : List AV) (r : AV) (frs : Fr) : Prop := Abs.Ret true Tryz.prog 270 args r frs
def sFormatInt.code : ACode := (q_ (r_ [s 2 (.mv (.const (.string (.mk #[]))))]) (q_ (q_ (r_ [v_ 4 0, s 5 (.bin .eql (t 4) (.const (.int .i64 (-9223372036854775808))))]) (.cond (t 5) (q_ (r_ [s 2 (.mv (.const (.string (.mk #[45, 57, 50, 50, 51, 51, 55, 50, 48, 51, 54, 56, 53, 52, 55, 55, 53, 56, 48, 56]))))]) .ret) .skip)) (q_ (q_ (r_ [v_ 6 0, s 7 (.bin .lss (t 6) (i_ 0))]) (.cond (t 7) (q_ (r_ [v_ 8 0, s 9 (.neg (t 8)), s 10 (.call 238 [t 9]), s 11 (.bin .add (.const (.string (.mk #[45]))) (t 10)), v_ 2 11]) .ret) .skip)) (q_ (r_ [s 3 (.mv (.const (.string (.mk #[]))))]) (.block 0 (.loop (.block 1 (q_ (r_ [v_ 12 0, s 13 (.bin .rem (t 12) (i_ 10)), s 14 (.bin .add (i_ 48) (t 13)), s 15 (.conv .u8 (t 14)), s 16 (.bslice 5 1 true [t 15]), s 17 (.b2s (t 16)), v_ 18 3, s 19 (.bin .add (t 17) (t 18)), v_ 3 19]) (q_ (r_ [v_ 20 0, s 21 (.bin .quo (t 20) (i_ 10)), v_ 0 21]) (q_ (r_ [v_ 22 0, s 23 (.bin .eql (t 22) (i_ 0))]) (.cond (t 23) (q_ (r_ [v_ 24 3, v_ 2 24]) .ret) .skip)))))))))))
theorem sFormatInt.ir : IrAt Tryz.prog 238 sFormatInt.code [0, 2, 3] [.tmp 2] Tryz.f238.ntmps := ir_ Tryz.func238
abbrev sFormatInt.Ret (args : List AV) (r : AV) (frs : Fr) : Prop := Abs.Ret true Tryz.prog 238 args r frs
def sParseInt.code : ACode := (q_ (r_ [s 2 (.mv (i_ 0)), s 3 mf_]) (q_ (q_ (r_ [v_ 6 0, s 7 (.len true (t 6)), s 8 (.call 70 [t 7, (i_ 1), (i_ 4)]), s 9 (.not (t 8))]) (.cond (t 9) (q_ (r_ [s 2 (.mv (i_ 0)), s 3 mf_]) .ret) .skip)) (q_ (r_ [s 4 (.mv (i_ 0))]) (q_ (q_ (r_ [s 5 (.mv (i_ 0))]) (.block 0 (.loop (q_ (q_ (r_ [v_ 10 5, v_ 11 0, s 12 (.len true (t 11)), s 13 (.bin .lss (t 10) (t 12))]) (.cond (t 13) .skip (.exit 0))) (q_ (.block 1 (q_ (q_ (r_ [v_ 16 0, v_ 17 5, s 18 (.index (t 16) (t 17)), s 19 (.bin .lss (t 18) (.const (.int .u8 48))), v_ 20 19, g 20 false 21 (.mv (t 0)), g 20 false 22 (.mv (t 5)), g 20 false 23 (.index (t 21) (t 22)), g 20 false 24 (.bin .gtr (t 23) (.const (.int .u8 57))), s 25 (.or (t 20) (t 24))]) (.cond (t 25) (q_ (r_ [s 2 (.mv (i_ 0)), s 3 mf_]) .ret) .skip)) (r_ [v_ 26 4, s 27 (.bin .mul (i_ 10) (t 26)), v_ 28 0, v_ 29 5, s 30 (.index (t 28) (t 29)), s 31 (.bin .sub (t 30) (.const (.int .u8 48))), s 32 (.conv .i64 (t 31)), s 33 (.bin .add (t 27) (t 32)), v_ 4 33]))) (r_ [v_ 14 5, s 15 (.bin .add (t 14) (i_ 1)), v_ 5 15])))))) (q_ (q_ (r_ [v_ 34 4, s 35 (.call 238 [t 34]), v_ 36 0, s 37 (.bin .neq (t 35) (t 36))]) (.cond (t 37) (q_ (r_ [s 2 (.mv (i_ 0)), s 3 mf_]) .ret) .skip)) (q_ (r_ [v_ 38 4, v_ 2 38, s 3 mt_]) .ret))))))
theorem sParseInt.ir : IrAt Tryz.prog 220 sParseInt.code [0, 2, 3, 4, 5] [.tmp 2, .tmp 3] Tryz.f220.ntmps := ir_ Tryz.func220
abbrev sParseInt.Ret (args : List AV) (r : AV) (frs : Fr) : Prop := Abs.Ret true Tryz.prog 220 args r frs
def pParseInt.code : ACode := (q_ (r_ [s 2 (.mv (i_ 0)), s 3 mf_]) (q_ (q_ (r_ [v_ 7 0, s 8 (.bin .eql (t 7) (.const (.string (.mk #[])))), v_ 9 8, g 9 false 10 (.mv (t 0)), g 9 false 11 (.len true (t 10)), g 9 false 12 (.bin .gtr (t 11) (i_ 1)), g 9 false 13 (.mv (t 12)), g 13 true 14 (.mv (t 0)), g 13 true 15 (.index (t 14) (i_ 0)), g 13 true 16 (.bin .eql (t 15) (.const (.int .u8 48))), g 9 false 17 (.and (t 13) (t 16)), s 18 (.or (t 9) (t 17))]) (.cond (t 18) (q_ (r_ [s 2 (.mv (i_ 0)), s 3 mf_]) .ret) .skip)) (q_ (r_ [s 4 (.mv (i_ 0))]) (q_ (q_ (r_ [v_ 19 0, s 20 (.range (t 19))]) (.block 0 (.loop (q_ (r_ [s 21 (.next (t 20)), s 22 (.extract (t 21) 0)]) (q_ (.cond (t 22) .skip (.exit 0)) (.block 1 (q_ (r_ [s 23 (.extract (t 21) 2), v_ 6 23]) (q_ (q_ (r_ [v_ 24 6, s 25 (.call 217 [t 24]), s 26 (.not (t 25))]) (.cond (t 26) (q_ (r_ [s 2 (.mv (i_ 0)), s 3 mf_]) .ret) .skip)) (q_ (r_ [v_ 27 4, s 28 (.bin .mul (i_ 10) (t 27)), v_ 29 6, s 30 (.bin .sub (t 29) (.const (.int .i32 48))), s 31 (.conv .i64 (t 30)), s 32 (.bin .add (t 28) (t 31)), v_ 4 32]) (q_ (r_ [v_ 33 4, s 34 (.bin .gtr (t 33) (i_ 9999))]) (.cond (t 34) (q_ (r_ [s 2 (.mv (i_ 0)), s 3 mf_]) .ret) .skip))))))))))) (q_ (r_ [v_ 35 4, v_ 2 35, s 3 mt_]) .ret)))))
theorem pParseInt.ir : IrAt Tryz.prog 235 pParseInt.code [0, 2, 3, 4, 6, 20, 21, 22] [.tmp 2, .tmp 3] Tryz.f235.ntmps := ir_ Tryz.func235
abbrev pParseInt.Ret (args : List AV) (r : AV) (frs : Fr) : Prop := Abs.Ret true Tryz.prog 235 args r frs
def sCompareAtoms.code : ACode := (q_ (r_ [s 4 (.mv (i_ 0))]) (q_ (r_ [v_ 10 0, s 11 (.call 220 [t 10]), v_ 9 11, s 12 (.extract (t 9) 0), s 13 (.extract (t 9) 1), v_ 5 12, v_ 6 13]) (q_ (r_ [v_ 15 1, s 16 (.call 220 [t 15]), v_ 14 16, s 17 (.extract (t 14) 0), s 18 (.extract (t 14) 1), v_ 7 17, v_ 8 18]) (q_ (.block 0 (q_ (q_ (r_ [v_ 20 6, v_ 21 20, g 21 true 22 (.mv (t 8)), s 23 (.and (t 21) (t 22)), v_ 24 23, g 24 true 25 (.mv (t 5)), g 24 true 26 (.mv (t 7)), g 24 true 27 (.bin .lss (t 25) (t 26)), s 28 (.and (t 24) (t 27)), v_ 19 28]) (.cond (t 19) .skip (r_ [v_ 29 6, v_ 30 29, g 30 true 31 (.mv (t 8)), g 30 true 32 (.not (t 31)), s 33 (.and (t 30) (t 32)), v_ 19 33]))) (.cond (t 19) (q_ (r_ [s 4 (.mv (.const (.int .i64 (-1))))]) .ret) (q_ (q_ (r_ [v_ 35 6, v_ 36 35, g 36 true 37 (.mv (t 8)), s 38 (.and (t 36) (t 37)), v_ 39 38, g 39 true 40 (.mv (t 5)), g 39 true 41 (.mv (t 7)), g 39 true 42 (.bin .gtr (t 40) (t 41)), s 43 (.and (t 39) (t 42)), v_ 34 43]) (.cond (t 34) .skip (r_ [v_ 44 8, v_ 45 44, g 45 true 46 (.mv (t 6)), g 45 true 47 (.not (t 46)), s 48 (.and (t 45) (t 47)), v_ 34 48]))) (.cond (t 34) (q_ (r_ [s 4 (.mv (i_ 1))]) .ret) (q_ (r_ [v_ 50 6, v_ 49 50]) (.cond (t 49) (q_ (r_ [s 4 (.mv (i_ 0))]) .ret) .skip))))))) (q_ (r_ [v_ 51 0, v_ 52 1, s 53 (.call 199 [t 51, t 52]), v_ 4 53]) .ret)))))
theorem sCompareAtoms.ir : IrAt Tryz.prog 200 sCompareAtoms.code [0, 1, 4, 5, 6, 7, 8, 19, 34] [.tmp 4] Tryz.f200.ntmps := ir_ Tryz.func200
abbrev sCompareAtoms.Ret (args : List AV) (r : AV) (frs : Fr) : Prop := Abs.Ret true Tryz.prog 200 args r frs
def pCompareAtoms.code : ACode := (q_ (r_ [s 4 (.mv (i_ 0))]) (q_ (r_ [v_ 10 0, s 11 (.call 235 [t 10]), v_ 9 11, s 12 (.extract (t 9) 0), s 13 (.extract (t 9) 1), v_ 5 12, v_ 6 13]) (q_ (r_ [v_ 15 1, s 16 (.call 235 [t 15]), v_ 14 16, s 17 (.extract (t 14) 0), s 18 (.extract (t 14) 1), v_ 7 17, v_ 8 18]) (q_ (.block 0 (q_ (r_ [v_ 20 6, v_ 21 20, g 21 true 22 (.mv (t 8)), s 23 (.and (t 21) (t 22)), v_ 19 23]) (.cond (t 19) (q_ (r_ [v_ 24 5, v_ 25 7, s 26 (.call 236 [t 24, t 25]), v_ 4 26]) .ret) (q_ (r_ [v_ 28 6, v_ 27 28]) (.cond (t 27) (q_ (r_ [s 4 (.mv (.const (.int .i64 (-1))))]) .ret) (q_ (r_ [v_ 30 8, v_ 29 30]) (.cond (t 29) (q_ (r_ [s 4 (.mv (i_ 1))]) .ret) .skip))))))) (q_ (r_ [v_ 31 0, v_ 32 1, s 33 (.call 214 [t 31, t 32]), v_ 4 33]) .ret)))))
theorem pCompareAtoms.ir : IrAt Tryz.prog 216 pCompareAtoms.code [0, 1, 4, 5, 6, 7, 8] [.tmp 4] Tryz.f216.ntmps := ir_ Tryz.func216
abbrev pCompareAtoms.Ret (args : List AV) (r : AV) (frs : Fr) : Prop := Abs.Ret true Tryz.prog 216 args r frs
def sCmp.code : ACode := (q_ (r_ [s 4 (.mv (i_ 0))]) (q_ (.block 0 (q_ (r_ [v_ 6 0, v_ 7 1, s 8 (.bin .lss (t 6) (t 7)), v_ 5 8]) (.cond (t 5) (q_ (r_ [s 4 (.mv (.const (.int .i64 (-1))))]) .ret) (q_ (r_ [v_ 10 0, v_ 11 1, s 12 (.bin .gtr (t 10) (t 11)), v_ 9 12]) (.cond (t 9) (q_ (r_ [s 4 (.mv (i_ 1))]) .ret) .skip))))) (q_ (r_ [s 4 (.mv (i_ 0))]) .ret)))
theorem sCmp.ir : IrAt Tryz.prog 199 sCmp.code [0, 1, 4] [.tmp 4] Tryz.f199.ntmps := ir_ Tryz.func199
abbrev sCmp.Ret (args : List AV) (r : AV) (frs : Fr) : Prop := Abs.Ret true Tryz.prog 199 args r frs
def cmpInt.code : ACode := (q_ (r_ [s 4 (.mv (i_ 0))]) (q_ (r_ [v_ 7 0, s 8 (.call 247 [t 7]), v_ 5 8]) (q_ (r_ [v_ 9 1, s 10 (.call 247 [t 9]), v_ 6 10]) (q_ (q_ (r_ [v_ 11 5]) (.cond (t 11) (q_ (q_ (r_ [v_ 12 6]) (.cond (t 12) (q_ (r_ [s 4 (.mv (i_ 0))]) .ret) .skip)) (q_ (r_ [s 4 (.mv (.const (.int .i64 (-1))))]) .ret)) .skip)) (q_ (q_ (r_ [v_ 13 6]) (.cond (t 13) (q_ (r_ [s 4 (.mv (i_ 1))]) .ret) .skip)) (q_ (q_ (r_ [v_ 14 0, v_ 15 1, s 16 (.bin .lss (t 14) (t 15))]) (.cond (t 16) (q_ (r_ [s 4 (.mv (.const (.int .i64 (-1))))]) .ret) .skip)) (q_ (q_ (r_ [v_ 17 0, v_ 18 1, s 19 (.bin .gtr (t 17) (t 18))]) (.cond (t 19) (q_ (r_ [s 4 (.mv (i_ 1))]) .ret) .skip)) (q_ (r_ [s 4 (.mv (i_ 0))]) .ret))))))))
theorem cmpInt.ir : IrAt Tryz.prog 236 cmpInt.code [0, 1, 4, 5, 6] [.tmp 4] Tryz.f236.ntmps := ir_ Tryz.func236
abbrev cmpInt.Ret (args : List AV) (r : AV) (frs : Fr) : Prop := Abs.Ret true Tryz.prog 236 args r frs
def cmpString.code : ACode := (q_ (r_ [s 4 (.mv (i_ 0))]) (q_ (r_ [v_ 7 0, s 8 (.call 234 [t 7]), v_ 5 8]) (q_ (r_ [v_ 9 1, s 10 (.call 234 [t 9]), v_ 6 10]) (q_ (q_ (r_ [v_ 11 5]) (.cond (t 11) (q_ (q_ (r_ [v_ 12 6]) (.cond (t 12) (q_ (r_ [s 4 (.mv (i_ 0))]) .ret) .skip)) (q_ (r_ [s 4 (.mv (.const (.int .i64 (-1))))]) .ret)) .skip)) (q_ (q_ (r_ [v_ 13 6]) (.cond (t 13) (q_ (r_ [s 4 (.mv (i_ 1))]) .ret) .skip)) (q_ (q_ (r_ [v_ 14 0, v_ 15 1, s 16 (.bin .lss (t 14) (t 15))]) (.cond (t 16) (q_ (r_ [s 4 (.mv (.const (.int .i64 (-1))))]) .ret) .skip)) (q_ (q_ (r_ [v_ 17 0, v_ 18 1, s 19 (.bin .gtr (t 17) (t 18))]) (.cond (t 19) (q_ (r_ [s 4 (.mv (i_ 1))]) .ret) .skip)) (q_ (r_ [s 4 (.mv (i_ 0))]) .ret))))))))
theorem cmpString.ir : IrAt Tryz.prog 214 cmpString.code [0, 1, 4, 5, 6] [.tmp 4] Tryz.f214.ntmps := ir_ Tryz.func214
abbrev cmpString.Ret (args : List AV) (r : AV) (frs : Fr) : Prop := Abs.Ret true Tryz.prog 214 args r frs
def isNaNInt.code : ACode := (q_ (r_ [s 2 mf_]) (q_ (r_ [v_ 3 0, v_ 4 0, s 5 (.bin .neq (t 3) (t 4)), v_ 2 5]) .ret))
theorem isNaNInt.ir : IrAt Tryz.prog 247 isNaNInt.code [0, 2] [.tmp 2] Tryz.f247.ntmps := ir_ Tryz.func247
abbrev isNaNInt.Ret (args : List AV) (r : AV) (frs : Fr) : Prop := Abs.Ret true Tryz.prog 247 args r frs
def isNaNString.code : ACode := (q_ (r_ [s 2 mf_]) (q_ (r_ [v_ 3 0, v_ 4 0, s 5 (.bin .neq (t 3) (t 4)), v_ 2 5]) .ret))
theorem isNaNString.ir : IrAt Tryz.prog 234 isNaNString.code [0, 2] [.tmp 2] Tryz.f234.ntmps := ir_ Tryz.func234
abbrev isNaNString.Ret (args : List AV) (r : AV) (frs : Fr) : Prop := Abs.Ret true Tryz.prog 234 args r frs
def sPut.code : ACode := (q_ (r_ [s 4 (.mv (.const (.slice none 0 0)))]) (q_ (r_ [s 8 (.bslice 9 1 true []), v_ 5 8]) (q_ (r_ [s 6 mf_]) (q_ (q_ (r_ [s 7 (.mv (i_ 0))]) (.block 0 (.loop (q_ (q_ (r_ [v_ 9 7, v_ 10 0, s 11 (.len false (t 10)), s 12 (.bin .lss (t 9) (t 11))]) (.cond (t 12) .skip (.exit 0))) (q_ (.block 1 (q_ (q_ (r_ [v_ 15 6, s 16 (.not (t 15)), v_ 17 16, g 17 true 18 (.mv (t 0)), g 17 true 19 (.mv (t 7)), g 17 true 20 (.iadr 1 (t 18) (t 19)), g 17 true 21 (l_ 20), g 17 true 22 (.mv (t 1)), g 17 true 23 (.bin .geq (t 21) (t 22)), s 24 (.and (t 17) (t 23))]) (.cond (t 24) (q_ (r_ [s 6 mt_]) (q_ (r_ [v_ 25 0, v_ 26 7, s 27 (.iadr 1 (t 25) (t 26)), s 28 (l_ 27), v_ 29 1, s 30 (.bin .neq (t 28) (t 29))]) (.cond (t 30) (r_ [v_ 31 5, v_ 32 1, s 33 (.bslice 9 1 false [t 32]), s 34 (.append 9 1 16 (t 31) (t 33)), v_ 5 34]) .skip))) .skip)) (r_ [v_ 35 5, v_ 36 0, v_ 37 7, s 38 (.iadr 1 (t 36) (t 37)), s 39 (l_ 38), s 40 (.bslice 9 1 false [t 39]), s 41 (.append 9 1 16 (t 35) (t 40)), v_ 5 41]))) (r_ [v_ 13 7, s 14 (.bin .add (t 13) (i_ 1)), v_ 7 14])))))) (q_ (q_ (r_ [v_ 42 6, s 43 (.not (t 42))]) (.cond (t 43) (r_ [v_ 44 5, v_ 45 1, s 46 (.bslice 9 1 false [t 45]), s 47 (.append 9 1 16 (t 44) (t 46)), v_ 5 47]) .skip)) (q_ (r_ [v_ 48 5, v_ 4 48]) .ret))))))
theorem sPut.ir : IrAt Tryz.prog 195 sPut.code [0, 1, 4, 5, 6, 7] [.tmp 4] Tryz.f195.ntmps := ir_ Tryz.func195
abbrev sPut.Ret (args : List AV) (r : AV) (frs : Fr) : Prop := Abs.Ret true Tryz.prog 195 args r frs
def pSortedTexts.code : ACode := (q_ (r_ [s 2 (.mv (.const (.slice none 0 0)))]) (q_ (r_ [v_ 4 0, s 5 (.call 192 [t 4]), v_ 3 5]) (q_ (r_ [v_ 6 3, s 7 (.call 232 [t 6])]) (q_ (r_ [v_ 8 3, s 9 (.call 233 [t 8]), v_ 2 9]) .ret))))
theorem pSortedTexts.ir : IrAt Tryz.prog 213 pSortedTexts.code [0, 2, 3] [.tmp 2] Tryz.f213.ntmps := ir_ Tryz.func213
abbrev pSortedTexts.Ret (args : List AV) (r : AV) (frs : Fr) : Prop := Abs.Ret true Tryz.prog 213 args r frs
def slClone.code : ACode := (q_ (r_ [s 2 (.mv (.const (.slice none 0 0)))]) (q_ (q_ (r_ [v_ 3 0, s 4 (.nilq false (t 3))]) (.cond (t 4) (q_ (r_ [s 2 (.mv (.const (.slice none 0 0)))]) .ret) .skip)) (q_ (r_ [s 5 (.bslice 9 1 true []), v_ 6 0, s 7 (.append 9 1 16 (t 5) (t 6)), v_ 2 7]) .ret)))
theorem slClone.ir : IrAt Tryz.prog 192 slClone.code [0, 2] [.tmp 2] Tryz.f192.ntmps := ir_ Tryz.func192
abbrev slClone.Own (args : List AV) (x : Tr) : Prop := Abs.Own true Tryz.prog 192 args x
abbrev slClone.Ret (args : List AV) (r : AV) (frs : Fr) : Prop := Abs.Ret true Tryz.prog 192 args r frs
abbrev slSort.Ctx (b0 : List ABox) (args : List AV) (Φ : AV → List ABox → Prop) : Prop := Abs.Ctx true Tryz.prog 232 b0 args Φ
abbrev slCompact.Ctx (b0 : List ABox) (args : List AV) (Φ : AV → List ABox → Prop) : Prop := Abs.Ctx true Tryz.prog 233 b0 args Φ
def sTexts.code : ACode := (q_ (r_ [s 2 (.mv (.const (.slice none 0 0)))]) (q_ (r_ [s 3 (.bslice 9 1 true []), v_ 4 0, s 5 (.append 9 1 16 (t 3) (t 4)), v_ 2 5]) .ret))
theorem sTexts.ir : IrAt Tryz.prog 201 sTexts.code [0, 2] [.tmp 2] Tryz.f201.ntmps := ir_ Tryz.func201
abbrev sTexts.Ret (args : List AV) (r : AV) (frs : Fr) : Prop := Abs.Ret true Tryz.prog 201 args r frs
def slEqual.code : ACode := (q_ (r_ [s 4 mf_]) (q_ (q_ (r_ [v_ 6 0, s 7 (.len false (t 6)), v_ 8 1, s 9 (.len false (t 8)), s 10 (.bin .neq (t 7) (t 9))]) (.cond (t 10) (q_ (r_ [s 4 mf_]) .ret) .skip)) (q_ (q_ (r_ [v_ 11 0, s 12 (.len false (t 11)), s 13 (.mv (i_ 0))]) (.block 0 (.loop (q_ (r_ [s 14 (.bin .lss (t 13) (t 12))]) (q_ (.cond (t 14) .skip (.exit 0)) (q_ (.block 1 (q_ (r_ [v_ 15 13, v_ 5 15]) (q_ (.region true [v_ 16 0, v_ 17 5, s 18 (.iadr 1 (t 16) (t 17)), s 19 (l_ 18), v_ 20 1, v_ 21 5, s 22 (.iadr 1 (t 20) (t 21)), s 23 (l_ 22), s 24 (.bin .neq (t 19) (t 23))]) (.cond (t 24) (q_ (r_ [s 4 mf_]) .ret) .skip)))) (r_ [s 25 (.bin .add (t 13) (i_ 1)), v_ 13 25]))))))) (q_ (r_ [s 4 mt_]) .ret))))
theorem slEqual.ir : IrAt Tryz.prog 186 slEqual.code [0, 1, 4, 5, 12, 13, 14] [.tmp 4] Tryz.f186.ntmps := ir_ Tryz.func186
abbrev slEqual.Ret (args : List AV) (r : AV) (frs : Fr) : Prop := Abs.Ret true Tryz.prog 186 args r frs
def slCompareFunc.code : ACode := (q_ (r_ [s 6 (.mv (i_ 0))]) (q_ (q_ (r_ [v_ 11 0, s 12 (.len false (t 11)), s 13 (.mv (i_ 0))]) (.block 0 (.loop (q_ (r_ [s 14 (.bin .lss (t 13) (t 12))]) (q_ (.cond (t 14) .skip (.exit 0)) (q_ (.block 1 (q_ (r_ [v_ 15 13, s 16 (.iadr 1 (t 11) (t 13)), s 17 (l_ 16), v_ 7 15, v_ 8 17]) (q_ (q_ (r_ [v_ 18 7, v_ 19 1, s 20 (.len false (t 19)), s 21 (.bin .geq (t 18) (t 20))]) (.cond (t 21) (q_ (r_ [s 6 (.mv (i_ 1))]) .ret) .skip)) (q_ (r_ [v_ 22 1, v_ 23 7, s 24 (.iadr 1 (t 22) (t 23)), s 25 (l_ 24), v_ 9 25]) (q_ (r_ [v_ 26 2, v_ 27 8, v_ 28 9, s 29 (.callv (t 26) [t 27, t 28]), v_ 10 29]) (q_ (r_ [v_ 30 10, s 31 (.bin .neq (t 30) (i_ 0))]) (.cond (t 31) (q_ (r_ [v_ 32 10, v_ 6 32]) .ret) .skip))))))) (r_ [s 33 (.bin .add (t 13) (i_ 1)), v_ 13 33]))))))) (q_ (q_ (r_ [v_ 34 0, s 35 (.len false (t 34)), v_ 36 1, s 37 (.len false (t 36)), s 38 (.bin .lss (t 35) (t 37))]) (.cond (t 38) (q_ (r_ [s 6 (.mv (.const (.int .i64 (-1))))]) .ret) .skip)) (q_ (r_ [s 6 (.mv (i_ 0))]) .ret))))
theorem slCompareFunc.ir : IrAt Tryz.prog 215 slCompareFunc.code [0, 1, 2, 6, 7, 8, 9, 10, 11, 12, 13, 14] [.tmp 6] Tryz.f215.ntmps := ir_ Tryz.func215
abbrev slCompareFunc.Ret (args : List AV) (r : AV) (frs : Fr) : Prop := Abs.Ret true Tryz.prog 215 args r frs
end Go.Proofs.YtiloafmpienmhaaGreat
namespace Go.Proofs.YtiloafmpienmhaaGreat
open Abs
theorem l1In.ret (x a b : Int) : l1In.Ret [.val (.int .i64 x), .val (.int .i64 a), .val (.int .i64 b)] (.val (.bool (decide (a ≤ x) && decide (x ≤ b)))) [] := by
  refine l1In.ir.of rfl ?_
  repeat' first
    | (conv => whnf
       first | refine Need.mk (fun h => h) ?_ | refine Need.mk rfl ?_ | refine LitO.own rfl ?_ | refine FinVal.keep ?_ | refine Final.mk rfl rfl)
def letter (c : Int) : Bool := decide (97 ≤ c) && decide (c ≤ 122)
def digit (c : Int) : Bool := decide (48 ≤ c) && decide (c ≤ 57)
theorem isLetter.ret (x : Int) : isLetter.Ret [.val (.int .i32 x)] (.val (.bool (letter x))) [] := by
  refine isLetter.ir.of rfl ?_; unfold letter
  repeat' first
    | (conv => whnf
       first | refine Need.mk (fun h => h) ?_ | refine Need.mk rfl ?_ | refine LitO.own rfl ?_ | refine FinVal.keep ?_ | refine Final.mk rfl rfl)
theorem isDigit.ret (x : Int) : isDigit.Ret [.val (.int .i32 x)] (.val (.bool (digit x))) [] := by
  refine isDigit.ir.of rfl ?_; unfold digit
  repeat' first
    | (conv => whnf
       first | refine Need.mk (fun h => h) ?_ | refine Need.mk rfl ?_ | refine LitO.own rfl ?_ | refine FinVal.keep ?_ | refine Final.mk rfl rfl)
def alnum (c : UInt8) : Bool := letter c.toNat || digit c.toNat
def atomF (s : Str) : Bool := s.all alnum && (decide (1 ≤ (s.length : Int)) && decide ((s.length : Int) ≤ 8))
theorem wrap64_byte (c : UInt8) : IntKind.i64.wrap (c.toNat : Int) = c.toNat := wrap64 (by omega) (by have := c.toNat_lt; omega)
theorem wrap32_byte (c : UInt8) : IntKind.i32.wrap (c.toNat : Int) = c.toNat := by have h := c.toNat_lt; exact Go.IntWalk.i32_in _ ⟨by omega, by omega⟩
theorem atomF_no {x : Str} {i : Nat} (hi : i < x.length) (h : alnum (x.getD i 0) = false) : atomF x = false := by
  have : x.all alnum = false := by
    rw [List.all_eq_false]
    refine ⟨x.getD i 0, ?_, by rw [h]; simp⟩
    simp [List.getD, hi]
  simp [atomF, this]
theorem all_succ {x : Str} {i : Nat} (hi : i < x.length) (h : (x.take i).all alnum = true) (hc : alnum (x.getD i 0) = true) : (x.take (i + 1)).all alnum = true := by
  rw [take_succ' 0 hi, List.all_append, h]; simpa using hc
theorem all_end {x : Str} {i : Nat} (hi : x.length ≤ i) (h : (x.take i).all alnum = true) : x.all alnum = true := by
  rwa [List.take_of_length_le hi] at h
theorem nor {p q : Bool} (h : (!p && !q) = true) : (p || q) = false := by cases p <;> cases q <;> simp_all
theorem nor' {p q : Bool} (h : (!p && !q) = false) : (p || q) = true := by cases p <;> cases q <;> simp_all
theorem dec_cases (x : Str) (i : Nat) (hi : i < x.length) :
    ((x.getD i 0).toNat < 128 ∧ decodeS x i = ((x.getD i 0).toNat, 1)) ∨ (128 ≤ (x.getD i 0).toNat ∧ 128 ≤ (decodeS x i).1) := by
  have hs : i < (⟨x.toArray⟩ : ByteArray).size := hi
  have he : (⟨x.toArray⟩ : ByteArray)[i]'hs = x.getD i 0 := by
    have : (⟨x.toArray⟩ : ByteArray)[i]'hs = x[i] := rfl
    rw [this]; simp [List.getD, hi]
  rcases Nat.lt_or_ge (x.getD i 0).toNat 128 with h | h
  · exact .inl ⟨h, by unfold decodeS; rw [decode_ascii _ _ hs (by rw [he]; exact h), he]⟩
  · exact .inr ⟨h, (decode_high _ _ hs (by rw [he]; exact h)).1⟩
theorem sIsAtom.ret (x : Str) (hx : x.length ≤ 1048576) : sIsAtom.Ret [.str x] (.val (.bool (atomF x))) [] := by
  refine sIsAtom.ir.of rfl ?_
  skip
  refine ALoop.mk Nat (fun i => ⟨[(0, .str x), (3, .val (.int .i64 i))], [], []⟩) (fun i => i ≤ x.length ∧ (x.take i).all alnum = true) (fun i => x.length - i) ⟨0, ⟨Nat.zero_le _, rfl⟩, ?_⟩ (fun i hi => ?_)
  · repeat' first
      | exact trivial | refine wl_ ?_ ?_ ?_ ?_ | refine And.intro ?_ ?_ | with_reducible rfl | exact ble_ | refine AV.int_congr ?_ | refine AV.str_congr ?_ | (apply rfl)
  repeat' first
    | (conv => whnf
       first | refine Need.mk (fun h => h) ?_ | refine Need.mk rfl ?_ | refine Need.fin ?_ | refine Fork.dec (fun _ => ?_) (fun _ => ?_) | refine Fork.mk (fun _ => ?_) (fun _ => ?_) | refine Round.mk ?_ | refine LitO.own rfl ?_ | refine FinVal.keep ?_ | refine Final.mk ?_ rfl | refine ACall.scalA _ _ (l1In.ret _ _ _) rfl ?_ | refine AGCall.mkA _ _ (fun hg => l1In.ret _ _ _) rfl ?_)
    | refine AV.bool_congr ?_
  · rename_i h0 h1
    rw [atomF_no (i := i) (by omega) (by simp only [wrap64_byte, Int.toNat_natCast] at h1; exact nor h1)]
  · rename_i h0 h1
    refine ⟨i + 1, ⟨by omega, all_succ (by omega) hi.2 ?_⟩, ?_, by omega⟩
    · simp only [wrap64_byte, Int.toNat_natCast] at h1; exact nor' h1
    · repeat' first
        | exact trivial | refine wl_ ?_ ?_ ?_ ?_ | refine And.intro ?_ ?_ | with_reducible rfl | exact ble_ | refine AV.int_congr ?_ | refine AV.str_congr ?_ | (apply rfl)
      rw [wrap64 (by omega) (by omega)]; rfl
  · simp [atomF, all_end (by omega) hi.2]
theorem pIsAtom.ret (x : Str) (hx : x.length ≤ 1048576) : pIsAtom.Ret [.str x] (.val (.bool (atomF x))) [] := by
  refine pIsAtom.ir.of rfl ?_
  repeat' first
    | (conv => whnf
       first | refine Need.mk (fun h => h) ?_ | refine Need.mk rfl ?_ | refine Fork.mk (fun _ => ?_) (fun _ => ?_) | refine LitO.own rfl ?_ | refine FinVal.keep ?_ | refine Final.mk ?_ rfl)
    | refine AV.bool_congr ?_
  all_goals try refine ALoop.mk Nat (fun i => ⟨[(0, .str x), (13, .bptr 0 0)], [.iter x i], []⟩) (fun i => i ≤ x.length ∧ (x.take i).all alnum = true) (fun i => x.length - i) ⟨0, ⟨Nat.zero_le _, rfl⟩, ?_⟩ (fun i hi => ?_)
  rotate_left
  · repeat' first
      | exact trivial | refine wl_ ?_ ?_ ?_ ?_ | refine And.intro ?_ ?_ | with_reducible rfl | exact ble_ | refine AV.str_congr ?_ | (apply rfl)
  repeat' first
    | contradiction
    | (conv => whnf
       first | refine Need.mk (fun h => h) ?_ | refine Fork.dec (fun _ => ?_) (fun _ => ?_) | refine Fork.mk (fun _ => ?_) (fun _ => ?_) | refine Round.mk ?_ | refine FinVal.keep ?_ | refine Final.mk ?_ rfl | refine ACall.scalA _ _ (isLetter.ret _) rfl ?_ | refine AGCall.mkA _ _ (fun hg => isDigit.ret _) rfl ?_)
    | refine AV.bool_congr ?_
  · rename_i h0 _ h1
    refine (atomF_no h0 ?_).symm
    rcases dec_cases x i h0 with ⟨_, h⟩ | ⟨h, _⟩
    · rw [h] at h1; exact nor h1
    · rw [List.getD_eq_getElem?_getD] at h; simp [alnum, letter, digit]; omega
  · rename_i h0 _ h1
    rcases dec_cases x i h0 with ⟨_, h⟩ | ⟨_, h⟩
    · rw [h] at h1
      refine ⟨i + 1, ⟨h0, all_succ h0 hi.2 (nor' h1)⟩, ?_, by omega⟩
      repeat' first
        | exact trivial | refine wl_ ?_ ?_ ?_ ?_ | refine And.intro ?_ ?_ | with_reducible rfl | exact ble_ | refine AV.str_congr ?_ | (apply rfl)
      simp [h]
    · exfalso
      revert h1; simp [letter, digit]; omega
  · rename_i h1 h2 _
    simp only [Bool.or_eq_false_iff, decide_eq_false_iff_not] at h1
    have h3 : x ≠ [] := by simpa using h1.1
    have h4 : 0 < x.length := List.length_pos_iff.2 h3
    have h5 : (1 : Int) ≤ x.length := by omega
    have h6 : (x.length : Int) ≤ 8 := by omega
    simp [atomF, all_end (by omega) hi.2, h5, h6]
  · rename_i h1
    rcases Bool.or_eq_true_iff.1 h1 with h | h
    · have h3 : x = [] := by simpa using h
      subst h3; rfl
    · have : ¬ ((x.length : Int) ≤ 8) := by have := of_decide_eq_true h; omega
      simp [atomF, this]
end Go.Proofs.YtiloafmpienmhaaGreat
namespace Go.Proofs.YtiloafmpienmhaaGreat
open Abs
def fmt (n : Nat) : Str := if h : n < 10 then [UInt8.ofNat (48 + n)] else fmt (n / 10) ++ [UInt8.ofNat (48 + n % 10)]
termination_by n
decreasing_by omega
def dval (n : Nat) (c : UInt8) : Nat := 10 * n + (c.toNat - 48)
def valA (a : Nat) (s : Str) : Nat := s.foldl dval a
def dig (c : UInt8) : Bool := digit c.toNat
theorem dig_range {c : UInt8} (h : dig c = true) : 48 ≤ c.toNat ∧ c.toNat ≤ 57 := by
  simp [dig, digit] at h; omega
theorem fmt_small {n : Nat} (h : n < 10) : fmt n = [UInt8.ofNat (48 + n)] := by rw [fmt, dif_pos h]
theorem fmt_big {n : Nat} (h : 10 ≤ n) : fmt n = fmt (n / 10) ++ [UInt8.ofNat (48 + n % 10)] := by rw [fmt, dif_neg (by omega)]
theorem ofNat_dig {c : UInt8} (h : dig c = true) : UInt8.ofNat (48 + (c.toNat - 48)) = c := by
  have := dig_range h
  have e : 48 + (c.toNat - 48) = c.toNat := by omega
  rw [e]; exact UInt8.ofNat_toNat
theorem valA_lt {s : Str} (h : s.all dig = true) (a : Nat) : valA a s < (a + 1) * 10 ^ s.length := by
  induction s generalizing a with
  | nil => simp [valA]
  | cons c s ih =>
    simp only [List.all_cons, Bool.and_eq_true] at h
    have h1 := ih h.2 (dval a c)
    have h2 := dig_range h.1
    have h3 : (dval a c + 1) ≤ (a + 1) * 10 := by unfold dval; omega
    have h4 := Nat.mul_le_mul_right (10 ^ s.length) h3
    have h5 : (a + 1) * 10 * 10 ^ s.length = (a + 1) * 10 ^ (c :: s).length := by rw [List.length_cons, Nat.pow_succ, Nat.mul_assoc, Nat.mul_comm 10]
    show valA (dval a c) s < _
    omega
theorem valA_ge (s : Str) (a : Nat) : a * 10 ^ s.length ≤ valA a s := by
  induction s generalizing a with
  | nil => simp [valA]
  | cons c s ih =>
    have h1 := ih (dval a c)
    have h3 : a * 10 ≤ dval a c := by unfold dval; omega
    have h4 := Nat.mul_le_mul_right (10 ^ s.length) h3
    have h5 : a * 10 * 10 ^ s.length = a * 10 ^ (c :: s).length := by rw [List.length_cons, Nat.pow_succ, Nat.mul_assoc, Nat.mul_comm 10]
    show _ ≤ valA (dval a c) s
    omega
theorem fmt_valA {s : Str} (h : s.all dig = true) (a : Nat) (ha : 0 < a) : fmt (valA a s) = fmt a ++ s := by
  induction s generalizing a with
  | nil => simp [valA]
  | cons c s ih =>
    simp only [List.all_cons, Bool.and_eq_true] at h
    have h2 := dig_range h.1
    show fmt (valA (dval a c) s) = _
    rw [ih h.2 (dval a c) (by unfold dval; omega)]
    have h3 : dval a c / 10 = a := by unfold dval; omega
    have h4 : dval a c % 10 = c.toNat - 48 := by unfold dval; omega
    rw [fmt_big (n := dval a c) (by unfold dval; omega), h3, h4, ofNat_dig h.1]
    simp
theorem fmt_head (n : Nat) (h : 0 < n) : ∃ c r, fmt n = c :: r ∧ c ≠ 48 := by
  induction n using Nat.strongRecOn with
  | _ n ih =>
    rcases Nat.lt_or_ge n 10 with h1 | h1
    · refine ⟨_, [], fmt_small h1, fun e => ?_⟩
      have := congrArg UInt8.toNat e
      simp at this
      omega
    · obtain ⟨c, r, e, hc⟩ := ih (n / 10) (by omega) (by omega)
      exact ⟨c, r ++ [_], by rw [fmt_big h1, e]; rfl, hc⟩
def isNum (s : Str) : Bool := match s with
  | [] => false
  | [c] => dig c
  | c :: d :: s => (c :: d :: s).all dig && c != 48
theorem fmt_of_isNum {s : Str} (h : isNum s = true) : fmt (valA 0 s) = s := by
  match s, h with
  | [c], h =>
    have h2 := dig_range h
    have e : valA 0 [c] = c.toNat - 48 := by simp [valA, dval]
    rw [e, fmt_small (by omega), ofNat_dig h]
  | c :: d :: s, h =>
    simp only [isNum, Bool.and_eq_true, bne_iff_ne, ne_eq] at h
    have hc : dig c = true := by have := h.1; simp only [List.all_cons, Bool.and_eq_true] at this; exact this.1
    have hs : (d :: s).all dig = true := by have := h.1; rw [List.all_cons, Bool.and_eq_true] at this; exact this.2
    have h2 := dig_range hc
    have h3 : c.toNat ≠ 48 := fun e => h.2 (by rw [← UInt8.ofNat_toNat (x := c), e]; rfl)
    show fmt (valA (dval 0 c) (d :: s)) = _
    have e : dval 0 c = c.toNat - 48 := by simp [dval]
    rw [e, fmt_valA hs _ (by omega), fmt_small (by omega), ofNat_dig hc]
    rfl
theorem isNum_of_fmt {s : Str} (hd : s.all dig = true) (h : fmt (valA 0 s) = s) : isNum s = true := by
  match s, hd, h with
  | [], _, h =>
    exfalso
    have : fmt (valA 0 []) = [48] := by simp [valA, fmt_small]
    rw [this] at h; cases h
  | [c], hd, _ => simpa [isNum] using hd
  | c :: d :: s, hd, h =>
    simp only [isNum, hd, Bool.true_and, bne_iff_ne, ne_eq]
    intro hc
    subst hc
    rcases Nat.eq_zero_or_pos (valA 0 (48 :: d :: s)) with h0 | h0
    · rw [h0] at h
      have : fmt 0 = [48] := by simp [fmt_small]
      rw [this] at h; cases h
    · obtain ⟨c, r, e, hc⟩ := fmt_head _ h0
      rw [h] at e; cases e; exact hc rfl
theorem isNum_digits {s : Str} (h : isNum s = true) : s.all dig = true := by
  match s, h with
  | [c], h => simpa [isNum] using h
  | c :: d :: s, h => simp only [isNum, Bool.and_eq_true] at h; exact h.1
theorem isNum_len {s : Str} (h : isNum s = true) (hv : valA 0 s ≤ 9999) : s.length ≤ 4 := by
  match s, h with
  | [c], _ => simp
  | c :: d :: s, h =>
    have hd := isNum_digits h
    simp only [isNum, Bool.and_eq_true, bne_iff_ne, ne_eq] at h
    have hc : dig c = true := by have := h.1; simp only [List.all_cons, Bool.and_eq_true] at this; exact this.1
    have h2 := dig_range hc
    have h3 : c.toNat ≠ 48 := fun e => h.2 (by rw [← UInt8.ofNat_toNat (x := c), e]; rfl)
    have h4 : valA (dval 0 c) (d :: s) ≤ 9999 := hv
    have h5 := valA_ge (d :: s) (dval 0 c)
    rcases Nat.lt_or_ge 4 (c :: d :: s).length with h6 | h6
    · exfalso
      have h7 : 10 ^ 4 ≤ 10 ^ (d :: s).length := Nat.pow_le_pow_right (by omega) (by simp at h6 ⊢; omega)
      have h8 : 1 ≤ dval 0 c := by unfold dval; omega
      have h9 := Nat.mul_le_mul h8 h7
      omega
    · exact h6
def numF (s : Str) : Bool := isNum s && decide (s.length ≤ 4)
def parseF (s : Str) : Int × Bool := if numF s then (valA 0 s, true) else (0, false)
theorem valA_lt4 {s : Str} (h : s.all dig = true) (hl : s.length ≤ 4) : valA 0 s ≤ 9999 := by
  have h1 := valA_lt h 0
  have h2 : 10 ^ s.length ≤ 10 ^ 4 := Nat.pow_le_pow_right (by omega) hl
  omega
theorem fmt_len4 {n : Nat} (h : n ≤ 9999) : (fmt n).length ≤ 4 := by
  rcases Nat.lt_or_ge n 10 with h1 | h1
  · rw [fmt_small h1]; simp
  rw [fmt_big h1]
  rcases Nat.lt_or_ge (n / 10) 10 with h2 | h2
  · rw [fmt_small h2]; simp
  rw [fmt_big h2]
  rcases Nat.lt_or_ge (n / 10 / 10) 10 with h3 | h3
  · rw [fmt_small h3]; simp
  rw [fmt_big h3]
  rw [fmt_small (n := n / 10 / 10 / 10) (by omega)]; simp
theorem valA_snoc (s : Str) (c : UInt8) : valA 0 (s ++ [c]) = 10 * valA 0 s + (c.toNat - 48) := by
  unfold valA; rw [List.foldl_append]; rfl
end Go.Proofs.YtiloafmpienmhaaGreat
namespace Go.Proofs.YtiloafmpienmhaaGreat
open Abs
theorem sFormatInt.ret (n : Nat) (h : n ≤ 9999) : sFormatInt.Ret [.val (.int .i64 n)] (.str (fmt n)) [] := by
  refine sFormatInt.ir.ofS rfl rfl ?_
  repeat' first
    | (conv => whnf
       first | refine Need.mk rfl ?_ | refine Fork.decNo (by omega) ?_ | refine LitO.own rfl ?_)
  refine ALoop.mk (Nat × Str × Fr) (fun a => ⟨[(0, .val (.int .i64 a.1)), (3, .str a.2.1)], [], a.2.2⟩) (fun a => fmt a.1 ++ a.2.1 = fmt n ∧ a.1 ≤ 9999) (fun a => a.1) ⟨(n, [], []), ⟨by simp, h⟩, ?_⟩ (fun a ha => ?_)
  · repeat' first
      | exact trivial | refine wl_ ?_ ?_ ?_ ?_ | refine And.intro ?_ ?_ | with_reducible rfl | exact ble_ | refine AV.int_congr ?_ | refine AV.str_congr ?_ | (apply rfl)
  repeat' first
    | (conv => whnf
       first | refine Need.mk rfl ?_ | refine Need.fin ?_ | refine LitO.own rfl ?_)
  conv => whnf
  have hd : (↑a.1 : Int).tmod 10 = (a.1 % 10 : Nat) := by rw [Int.tmod_eq_emod_of_nonneg (by omega)]; omega
  have hq : IntKind.i64.wrap ((↑a.1 : Int).tdiv 10) = (a.1 / 10 : Nat) := by rw [Int.tdiv_eq_ediv_of_nonneg (by omega), wrap64 (by omega) (by omega)]; omega
  have hl : a.2.1.length ≤ 4 := by
    have h1 := congrArg List.length ha.1
    have h2 := fmt_len4 h
    rw [List.length_append] at h1
    omega
  refine Bytes.mk [UInt8.ofNat (48 + a.1 % 10)] ?_ ?_
  · rw [hd, wrap64 (by omega) (by omega)]
    simp only [List.map_cons, List.map_nil, byteCell]
    rw [Go.IntWalk.u8_in _ ⟨by omega, by omega⟩]
    congr 4
    simp
    omega
  repeat' first
    | (conv => whnf
       first | refine Need.mk rfl ?_ | refine Need.fin ?_ | refine Need.mk ?_ ?_ | refine Fork.dec (fun _ => ?_) (fun _ => ?_) | refine Round.mk ?_ | refine LitO.own rfl ?_ | refine Final.mk ?_ rfl)
    | refine AV.str_congr ?_
  · simp only [List.length_cons, List.length_nil]; omega
  · rename_i h1
    rw [hq] at h1
    rw [← ha.1, fmt_small (by omega)]
    have : a.1 % 10 = a.1 := by omega
    rw [this]
  · rename_i h1
    rw [hq] at h1
    refine ⟨(a.1 / 10, [UInt8.ofNat (48 + a.1 % 10)] ++ a.2.1, a.2.2 ++ [(5, 1, 1)]), ⟨?_, by show a.1 / 10 ≤ 9999; omega⟩, ?_, by show a.1 / 10 < a.1; omega⟩
    · rw [← ha.1, fmt_big (n := a.1) (by omega), List.append_assoc]
    · repeat' first
        | exact trivial | refine wl_ ?_ ?_ ?_ ?_ | refine And.intro ?_ ?_ | with_reducible rfl | exact ble_ | refine AV.int_congr ?_ | refine AV.str_congr ?_ | (apply rfl)
      exact hq
theorem parseF_no {x : Str} (h : numF x = false) : parseF x = (0, false) := by
  unfold parseF; rw [if_neg (by simp [h])]
theorem parseF_yes {x : Str} (h : numF x = true) : parseF x = (↑(valA 0 x), true) := by
  unfold parseF; rw [if_pos h]
theorem digs_no {x : Str} {i : Nat} (hi : i < x.length) (h : dig (x.getD i 0) = false) : numF x = false := by
  cases hn : numF x with
  | false => rfl
  | true =>
    exfalso
    simp only [numF, Bool.and_eq_true] at hn
    have := List.all_eq_true.1 (isNum_digits hn.1) (x.getD i 0) (by simp [List.getD, hi])
    rw [h] at this; cases this
theorem digs_succ {x : Str} {i : Nat} (hi : i < x.length) (h : (x.take i).all dig = true) (hc : dig (x.getD i 0) = true) : (x.take (i + 1)).all dig = true := by
  rw [take_succ' 0 hi, List.all_append, h]; simpa using hc
theorem val_succ {x : Str} {i : Nat} (hi : i < x.length) : valA 0 (x.take (i + 1)) = 10 * valA 0 (x.take i) + ((x.getD i 0).toNat - 48) := by
  rw [take_succ' 0 hi, valA_snoc]
theorem wrap_val {v : Nat} {c : UInt8} (hv : v ≤ 9999) (hc : dig c = true) : IntKind.i64.wrap (IntKind.i64.wrap (10 * (v : Int)) + IntKind.i64.wrap (IntKind.u8.wrap ((c.toNat : Int) - 48))) = ((10 * v + (c.toNat - 48) : Nat) : Int) := by
  have h := dig_range hc
  rw [Go.IntWalk.u8_in _ ⟨by omega, by omega⟩, wrap64 (x := 10 * (v : Int)) (by omega) (by omega), wrap64 (x := (c.toNat : Int) - 48) (by omega) (by omega), wrap64 (by omega) (by omega)]
  omega
theorem valA_le4 {x : Str} {i : Nat} (h : (x.take i).all dig = true) (hx : x.length ≤ 4) : valA 0 (x.take i) ≤ 9999 :=
  valA_lt4 h (by rw [List.length_take]; omega)
theorem sParseInt.ret (x : Str) (hx : x.length ≤ 1048576) : sParseInt.Ret [.str x] (.tup [.val (.int .i64 (parseF x).1), .val (.bool (parseF x).2)]) [] := by
  refine sParseInt.ir.ofS rfl rfl ?_
  repeat' first
    | (conv => whnf
       first | refine Fork.neg (fun _ => ?_) (fun _ => ?_) | refine FinVal.keep ?_ | refine Final.mk ?_ rfl | refine ACall.scalA _ _ (l1In.ret _ _ _) rfl ?_)
  · rename_i h
    have : numF x = false := by
      simp only [numF, Bool.and_eq_false_iff, decide_eq_false_iff_not] at h ⊢
      rcases h with h | h
      · left
        have : x.length = 0 := by omega
        rw [List.eq_nil_of_length_eq_zero this]; rfl
      · right; omega
    rw [parseF_no this]
  rename_i h
  simp only [Bool.and_eq_true, decide_eq_true_eq] at h
  have hl : x.length ≤ 4 := by omega
  clear h
  skip
  refine ALoop.mk Nat (fun i => ⟨[(0, .str x), (4, .val (.int .i64 (valA 0 (x.take i)))), (5, .val (.int .i64 i))], [], []⟩) (fun i => i ≤ x.length ∧ (x.take i).all dig = true) (fun i => x.length - i) ⟨0, ⟨Nat.zero_le _, rfl⟩, ?_⟩ (fun i hi => ?_)
  · repeat' first
      | exact trivial | refine wl_ ?_ ?_ ?_ ?_ | refine And.intro ?_ ?_ | with_reducible rfl | exact ble_ | refine AV.int_congr ?_ | refine AV.str_congr ?_ | (apply rfl)
  repeat' first
    | (conv => whnf
       first | refine Need.mk (fun h => h) ?_ | refine Need.mk rfl ?_ | refine Need.fin ?_ | refine Fork.dec (fun _ => ?_) (fun _ => ?_) | refine Fork.sne (fun _ => ?_) (fun _ => ?_) | refine Fork.mk (fun _ => ?_) (fun _ => ?_) | refine Round.mk ?_ | refine LitO.own rfl ?_ | refine FinVal.keep ?_ | refine Final.mk ?_ rfl | refine ACall.scalA _ _ (sFormatInt.ret _ ?_) rfl ?_)
  · rename_i h0 h
    have hn : numF x = false := digs_no (i := i) (by omega) (by
      simp only [Int.toNat_natCast] at h
      simp only [Bool.or_eq_true, decide_eq_true_eq] at h
      simp only [dig, digit, Bool.and_eq_false_iff, decide_eq_false_iff_not]; omega)
    rw [parseF_no hn]
  · rename_i h0 h
    have hc : dig (x.getD i 0) = true := by
      simp only [Int.toNat_natCast] at h
      simp only [Bool.or_eq_false_iff, decide_eq_false_iff_not] at h
      simp only [dig, digit, Bool.and_eq_true, decide_eq_true_eq]; omega
    have h1 := valA_le4 hi.2 hl
    have h2 := wrap_val h1 hc
    refine ⟨i + 1, ⟨by omega, digs_succ (by omega) hi.2 hc⟩, ?_, by omega⟩
    repeat' first
      | exact trivial | refine wl_ ?_ ?_ ?_ ?_ | refine And.intro ?_ ?_ | with_reducible rfl | exact ble_ | refine AV.int_congr ?_ | refine AV.str_congr ?_ | (apply rfl)
    · simp only [Int.toNat_natCast]
      rw [h2, val_succ (by omega)]
    · rw [wrap64 (by omega) (by omega)]; rfl
  · exact valA_le4 hi.2 hl
  · rename_i h0 h
    rw [List.take_of_length_le (by omega)] at h
    have hn : numF x = false := by
      cases hn : numF x with
      | false => rfl
      | true => simp only [numF, Bool.and_eq_true] at hn; exact absurd (fmt_of_isNum hn.1) h
    rw [parseF_no hn]
  · rename_i h0 h
    rw [List.take_of_length_le (by omega)] at h hi ⊢
    have hn : numF x = true := by simp [numF, isNum_of_fmt hi.2 h, hl]
    rw [parseF_yes hn]
theorem wrap_val32 {v : Nat} {c : UInt8} (hv : v ≤ 9999) (hc : dig c = true) : IntKind.i64.wrap (IntKind.i64.wrap (10 * (v : Int)) + IntKind.i64.wrap (IntKind.i32.wrap ((c.toNat : Int) - 48))) = ((10 * v + (c.toNat - 48) : Nat) : Int) := by
  have h := dig_range hc
  rw [Go.IntWalk.i32_in _ ⟨by omega, by omega⟩, wrap64 (x := 10 * (v : Int)) (by omega) (by omega), wrap64 (x := (c.toNat : Int) - 48) (by omega) (by omega), wrap64 (by omega) (by omega)]
  omega
def plainHead (x : Str) : Bool := !(x == [] || (decide (1 < (x.length : Int)) && ((x.getD 0 0).toNat : Int) == 48))
theorem plainHead_no {x : Str} (h : plainHead x = false) : numF x = false := by
  match x, h with
  | [], _ => rfl
  | [c], h => simp [plainHead] at h
  | c :: d :: x, h =>
    have : c = 48 := by
      have h1 : c.toNat = 48 := by simp [plainHead] at h; omega
      rw [← UInt8.ofNat_toNat (x := c), h1]; rfl
    subst this
    simp [numF, isNum]
theorem isNum_of {x : Str} (h : plainHead x = true) (hd : x.all dig = true) : isNum x = true := by
  match x, h, hd with
  | [c], _, hd => simpa [isNum] using hd
  | c :: d :: x, h, hd =>
    simp only [isNum, hd, Bool.true_and, bne_iff_ne, ne_eq]
    rintro rfl
    simp [plainHead] at h; omega
theorem dec_digit {x : Str} {i : Nat} (hi : i < x.length) (h : digit (decodeS x i).1 = true) : dig (x.getD i 0) = true ∧ decodeS x i = ((x.getD i 0).toNat, 1) := by
  rcases dec_cases x i hi with ⟨_, e⟩ | ⟨_, e⟩
  · rw [e] at h; exact ⟨h, e⟩
  · simp [digit] at h; omega
theorem dec_digit_no {x : Str} {i : Nat} (hi : i < x.length) (h : digit (decodeS x i).1 = false) : dig (x.getD i 0) = false := by
  rcases dec_cases x i hi with ⟨_, e⟩ | ⟨e, _⟩
  · rw [e] at h; exact h
  · simp only [dig, digit, Bool.and_eq_false_iff, decide_eq_false_iff_not]; omega
theorem pParseInt.ret (x : Str) (hx : x.length ≤ 1048576) : pParseInt.Ret [.str x] (.tup [.val (.int .i64 (parseF x).1), .val (.bool (parseF x).2)]) [] := by
  refine pParseInt.ir.ofS rfl rfl ?_
  repeat' first
    | (conv => whnf
       first | refine Need.mk (fun h => h) ?_ | refine Need.mk rfl ?_ | refine Need.fin ?_ | refine Fork.mk (fun _ => ?_) (fun _ => ?_) | refine LitO.own rfl ?_ | refine FinVal.keep ?_ | refine Final.mk ?_ rfl)
  · rename_i h
    have : plainHead x = false := by unfold plainHead; rw [Bool.not_eq_false']; exact h
    rw [parseF_no (plainHead_no this)]
  rename_i h
  have hp : plainHead x = true := by unfold plainHead; rw [Bool.not_eq_true']; exact h
  clear h
  skip
  refine ALoop.mk Nat (fun i => ⟨[(0, .str x), (4, .val (.int .i64 (valA 0 (x.take i)))), (20, .bptr 0 0)], [.iter x i], []⟩) (fun i => i ≤ x.length ∧ (x.take i).all dig = true ∧ valA 0 (x.take i) ≤ 9999) (fun i => x.length - i) ⟨0, ⟨Nat.zero_le _, rfl, by simp [valA]⟩, ?_⟩ (fun i hi => ?_)
  · repeat' first
      | exact trivial | refine wl_ ?_ ?_ ?_ ?_ | refine And.intro ?_ ?_ | with_reducible rfl | exact ble_ | refine AV.int_congr ?_ | refine AV.str_congr ?_ | (apply rfl)
  repeat' first
    | contradiction
    | (conv => whnf
       first | refine Need.mk rfl ?_ | refine Fork.dec (fun _ => ?_) (fun _ => ?_) | refine Fork.neg (fun _ => ?_) (fun _ => ?_) | refine Fork.mk (fun _ => ?_) (fun _ => ?_) | refine Round.mk ?_ | refine LitO.own rfl ?_ | refine FinVal.keep ?_ | refine Final.mk ?_ rfl | refine ACall.scalA _ _ (isDigit.ret _) rfl ?_)
  · rename_i h0 _ h
    rw [parseF_no (digs_no h0 (dec_digit_no h0 h))]
  · rename_i h0 _ h h9
    obtain ⟨hc, e⟩ := dec_digit h0 h
    rw [e, wrap_val32 hi.2.2 hc, ← val_succ h0] at h9
    have hd := digs_succ h0 hi.2.1 hc
    have hn : numF x = false := by
      cases hn : numF x with
      | false => rfl
      | true =>
        exfalso
        simp only [numF, Bool.and_eq_true, decide_eq_true_eq] at hn
        have := valA_le4 hd hn.2
        omega
    rw [parseF_no hn]
  · rename_i h0 _ h h9
    obtain ⟨hc, e⟩ := dec_digit h0 h
    rw [e, wrap_val32 hi.2.2 hc, ← val_succ h0] at h9
    refine ⟨i + 1, ⟨h0, digs_succ h0 hi.2.1 hc, by omega⟩, ?_, by omega⟩
    repeat' first
      | exact trivial | refine wl_ ?_ ?_ ?_ ?_ | refine And.intro ?_ ?_ | with_reducible rfl | exact ble_ | refine AV.int_congr ?_ | refine AV.str_congr ?_ | (apply rfl)
    · rw [e, wrap_val32 hi.2.2 hc, ← val_succ h0]
    · simp [e]
  · rename_i h0 _
    rw [List.take_of_length_le (by omega)] at hi ⊢
    have h1 := isNum_of hp hi.2.1
    have hn : numF x = true := by simp [numF, h1, isNum_len h1 hi.2.2]
    rw [parseF_yes hn]
end Go.Proofs.YtiloafmpienmhaaGreat
namespace Go.Proofs.YtiloafmpienmhaaGreat
open Abs
def nameF (x : Str) : Bool := atomF x && letter (x.getD 0 0).toNat
def varF (x : Str) : Bool := decide (1 < (x.length : Int)) && ((x.getD 0 0).toNat : Int) == 63 && atomF (x.drop 1)
theorem atomF_pos {x : Str} (h : atomF x = true) : 1 ≤ x.length := by
  simp only [atomF, Bool.and_eq_true, decide_eq_true_eq] at h; omega
theorem sIsName.ret (x : Str) (hx : x.length ≤ 1048576) : sIsName.Ret [.str x] (.val (.bool (nameF x))) [] := by
  refine sIsName.ir.of rfl ?_
  repeat' first
    | (conv => whnf
       first | refine Need.mk (fun h => h) ?_ | refine Need.mk ?_ ?_ | refine FinVal.keep ?_ | refine Final.mk ?_ rfl | refine ACall.scalA _ _ (sIsAtom.ret _ ?_) rfl ?_ | refine AGCall.mkA _ _ (fun hg => l1In.ret _ _ _) rfl ?_)
    | refine AV.bool_congr ?_
  · exact hx
  · intro h; have := atomF_pos h; omega
  · simp only [nameF, letter, wrap64_byte]; rfl
theorem pIsName.ret (x : Str) (hx : x.length ≤ 1048576) : pIsName.Ret [.str x] (.val (.bool (nameF x))) [] := by
  refine pIsName.ir.of rfl ?_
  repeat' first
    | (conv => whnf
       first | refine Need.mk (fun h => h) ?_ | refine Need.mk ?_ ?_ | refine FinVal.keep ?_ | refine Final.mk ?_ rfl | refine ACall.scalA _ _ (pIsAtom.ret _ ?_) rfl ?_ | refine AGCall.mkA _ _ (fun hg => isLetter.ret _) rfl ?_)
    | refine AV.bool_congr ?_
  · exact hx
  · intro h; have := atomF_pos h; omega
  · simp only [nameF, wrap32_byte]; rfl
end Go.Proofs.YtiloafmpienmhaaGreat
namespace Go.Proofs.YtiloafmpienmhaaGreat
open Abs
attribute [local irreducible] parseF
@[irreducible] def scmp (a b : Str) : Int := if Op.bytesLess a b then -1 else if a = b then 0 else 1
@[irreducible] def icmp (a b : Int) : Int := if a < b then -1 else if a = b then 0 else 1
def cmpA (a b : Str) : Int :=
  if (parseF a).2 then (if (parseF b).2 then icmp (parseF a).1 (parseF b).1 else -1) else (if (parseF b).2 then 1 else scmp a b)
theorem sCmp.ret (a b : Str) : sCmp.Ret [.str a, .str b] (.val (.int .i64 (scmp a b))) [] := by
  refine sCmp.ir.of rfl ?_
  repeat' first
    | (conv => whnf
       first | refine Fork.neg (fun _ => ?_) (fun _ => ?_) | refine Fork.mk (fun _ => ?_) (fun _ => ?_) | refine FinVal.keep ?_ | refine Final.mk ?_ rfl)
    | refine AV.int_congr ?_
  · rename_i h; simp [scmp, h]
  · rename_i h1 h; simp only [Bool.or_eq_false_iff, beq_eq_false_iff_ne] at h; simp [scmp, h1, h.2]
  · rename_i h1 h; simp only [h1, Bool.false_or, beq_iff_eq] at h; subst h; simp [scmp, bl_irrefl]
theorem isNaNInt.ret (a : Int) : isNaNInt.Ret [.val (.int .i64 a)] (.val (.bool false)) [] := by
  refine isNaNInt.ir.of rfl ?_
  repeat' first
    | (conv => whnf
       first | refine Need.mk rfl ?_ | refine LitO.own rfl ?_ | refine FinVal.keep ?_ | refine Final.mk ?_ rfl)
    | refine AV.bool_congr ?_
  simp
theorem isNaNString.ret (a : Str) : isNaNString.Ret [.str a] (.val (.bool false)) [] := by
  refine isNaNString.ir.of rfl ?_
  repeat' first
    | (conv => whnf
       first | refine FinVal.keep ?_ | refine Final.mk ?_ rfl)
    | refine AV.bool_congr ?_
  simp
theorem cmpInt.ret (a b : Int) : cmpInt.Ret [.val (.int .i64 a), .val (.int .i64 b)] (.val (.int .i64 (icmp a b))) [] := by
  refine cmpInt.ir.of rfl ?_
  repeat' first
    | contradiction
    | (conv => whnf
       first | refine Need.mk rfl ?_ | refine Fork.no (by assumption) ?_ | refine Fork.dec (fun _ => ?_) (fun _ => ?_) | refine Fork.mk (fun _ => ?_) (fun _ => ?_) | refine LitO.own rfl ?_ | refine FinVal.keep ?_ | refine Final.mk ?_ rfl | refine ACall.scalA _ _ (isNaNInt.ret _) rfl ?_)
    | refine AV.int_congr ?_
  · rename_i h; simp [icmp, h]
  · rename_i h1 h; simp only [icmp]; split <;> (try split) <;> omega
  · rename_i h1 h; simp only [icmp]; split <;> (try split) <;> omega
theorem cmpString.ret (a b : Str) : cmpString.Ret [.str a, .str b] (.val (.int .i64 (scmp a b))) [] := by
  refine cmpString.ir.of rfl ?_
  repeat' first
    | contradiction
    | (conv => whnf
       first | refine Fork.no (by assumption) ?_ | refine Fork.neg (fun _ => ?_) (fun _ => ?_) | refine Fork.mk (fun _ => ?_) (fun _ => ?_) | refine FinVal.keep ?_ | refine Final.mk ?_ rfl | refine ACall.scalA _ _ (isNaNString.ret _) rfl ?_)
    | refine AV.int_congr ?_
  · rename_i h; simp [scmp, h]
  · rename_i h1 h; simp only [Bool.or_eq_false_iff, beq_eq_false_iff_ne] at h; simp [scmp, h1, h.2]
  · rename_i h1 h; simp only [h1, Bool.false_or, beq_iff_eq] at h; subst h; simp [scmp, bl_irrefl]
theorem sCompareAtoms.ret (a b : Str) (ha : a.length ≤ 1048576) (hb : b.length ≤ 1048576) : sCompareAtoms.Ret [.str a, .str b] (.val (.int .i64 (cmpA a b))) [] := by
  refine sCompareAtoms.ir.of rfl ?_
  repeat' first
    | (conv => whnf
       first | refine Need.mk (fun h => h) ?_ | refine Need.mk rfl ?_ | refine Fork.yes (by assumption) ?_ | refine Fork.mk (fun _ => ?_) (fun _ => ?_) | refine LitO.own rfl ?_ | refine FinVal.keep ?_ | refine Final.mk ?_ rfl | refine ACall.scalA _ _ (sParseInt.ret _ ?_) rfl ?_ | refine ACall.scalA _ _ (sCmp.ret _ _) rfl ?_)
    | refine AV.int_congr ?_
  · exact ha
  · exact hb
  all_goals unfold cmpA icmp
  all_goals (cases hp : (parseF a).2 <;> cases hq : (parseF b).2)
  all_goals simp only [hp, hq, Bool.true_and, Bool.false_and, Bool.and_true, Bool.and_false, Bool.not_true, Bool.not_false, decide_eq_true_eq, decide_eq_false_iff_not, Bool.false_eq_true, Bool.true_eq_false, reduceIte] at *
  all_goals (first | rfl | (split <;> (try split) <;> omega))
theorem pCompareAtoms.ret (a b : Str) (ha : a.length ≤ 1048576) (hb : b.length ≤ 1048576) : pCompareAtoms.Ret [.str a, .str b] (.val (.int .i64 (cmpA a b))) [] := by
  refine pCompareAtoms.ir.of rfl ?_
  repeat' first
    | (conv => whnf
       first | refine Need.mk (fun h => h) ?_ | refine Fork.mk (fun _ => ?_) (fun _ => ?_) | refine FinVal.keep ?_ | refine Final.mk ?_ rfl | refine ACall.scalA _ _ (pParseInt.ret _ ?_) rfl ?_ | refine ACall.scalA _ _ (cmpInt.ret _ _) rfl ?_ | refine ACall.scalA _ _ (cmpString.ret _ _) rfl ?_)
    | refine AV.int_congr ?_
  · exact ha
  · exact hb
  all_goals simp_all [cmpA]
end Go.Proofs.YtiloafmpienmhaaGreat
namespace Go.Proofs.YtiloafmpienmhaaGreat
open Abs
def sIsFact.code : ACode := (q_ (r_ [s 1 (.box (t 0)), s 2 mf_]) (q_ (q_ (r_ [s 3 (.mv (i_ 0))]) (.block 0 (.loop (q_ (q_ (r_ [v_ 4 3, s 5 (f_ 1 1), s 6 (l_ 5), s 7 (.len false (t 6)), s 8 (.bin .lss (t 4) (t 7))]) (.cond (t 8) .skip (.exit 0))) (q_ (.block 1 (q_ (r_ [s 11 (f_ 1 1), s 12 (l_ 11), v_ 13 3, s 14 (.iadr 1 (t 12) (t 13)), s 15 (l_ 14), s 16 (.call 100 [t 15]), s 17 (.not (t 16))]) (.cond (t 17) (q_ (r_ [s 2 mf_]) .ret) .skip))) (r_ [v_ 9 3, s 10 (.bin .add (t 9) (i_ 1)), v_ 3 10])))))) (q_ (r_ [s 18 (f_ 0 1), s 19 (l_ 18), s 20 (.call 126 [t 19]), v_ 21 20, g 21 true 22 (f_ 1 1), g 21 true 23 (l_ 22), g 21 true 24 (.len false (t 23)), g 21 true 25 (.bin .leq (t 24) (i_ 3)), s 26 (.and (t 21) (t 25)), v_ 2 26]) .ret)))
theorem sIsFact.ir : IrAt Tryz.prog 125 sIsFact.code [0, 1, 2, 3] [.tmp 2] Tryz.f125.ntmps := ir_ Tryz.func125
abbrev sIsFact.Ret (args : List AV) (r : AV) (frs : Fr) : Prop := Abs.Ret true Tryz.prog 125 args r frs
def pIsFact.code : ACode := (q_ (r_ [s 1 (.box (t 0)), s 2 mf_]) (q_ (r_ [s 3 (f_ 0 1), s 4 (l_ 3), s 5 (f_ 1 1), s 6 (l_ 5), s 7 (.call 184 [t 4, t 6, (.func 172)]), v_ 2 7]) .ret))
theorem pIsFact.ir : IrAt Tryz.prog 133 pIsFact.code [0, 1, 2] [.tmp 2] Tryz.f133.ntmps := ir_ Tryz.func133
abbrev pIsFact.Ret (args : List AV) (r : AV) (frs : Fr) : Prop := Abs.Ret true Tryz.prog 133 args r frs
def sCompareFacts.code : ACode := (q_ (r_ [s 2 (.box (t 0)), s 3 (.box (t 1)), s 4 (.mv (i_ 0))]) (q_ (q_ (r_ [s 7 (f_ 0 2), s 8 (l_ 7), s 9 (f_ 0 3), s 10 (l_ 9), s 11 (.bin .neq (t 8) (t 10))]) (.cond (t 11) (q_ (r_ [s 12 (f_ 0 2), s 13 (l_ 12), s 14 (f_ 0 3), s 15 (l_ 14), s 16 (.call 199 [t 13, t 15]), v_ 4 16]) .ret) .skip)) (q_ (q_ (r_ [s 5 (.mv (i_ 0))]) (.block 0 (.loop (q_ (q_ (r_ [v_ 17 5, s 18 (f_ 1 2), s 19 (l_ 18), s 20 (.len false (t 19)), s 21 (.bin .lss (t 17) (t 20)), v_ 22 21, g 22 true 23 (.mv (t 5)), g 22 true 24 (f_ 1 3), g 22 true 25 (l_ 24), g 22 true 26 (.len false (t 25)), g 22 true 27 (.bin .lss (t 23) (t 26)), s 28 (.and (t 22) (t 27))]) (.cond (t 28) .skip (.exit 0))) (q_ (.block 1 (q_ (.region true [s 31 (f_ 1 2), s 32 (l_ 31), v_ 33 5, s 34 (.iadr 1 (t 32) (t 33)), s 35 (l_ 34), s 36 (f_ 1 3), s 37 (l_ 36), v_ 38 5, s 39 (.iadr 1 (t 37) (t 38)), s 40 (l_ 39), s 41 (.call 200 [t 35, t 40]), v_ 6 41]) (q_ (r_ [v_ 42 6, s 43 (.bin .neq (t 42) (i_ 0))]) (.cond (t 43) (q_ (r_ [v_ 44 6, v_ 4 44]) .ret) .skip)))) (r_ [v_ 29 5, s 30 (.bin .add (t 29) (i_ 1)), v_ 5 30])))))) (q_ (.block 2 (q_ (r_ [s 46 (f_ 1 2), s 47 (l_ 46), s 48 (.len false (t 47)), s 49 (f_ 1 3), s 50 (l_ 49), s 51 (.len false (t 50)), s 52 (.bin .lss (t 48) (t 51)), v_ 45 52]) (.cond (t 45) (q_ (r_ [s 4 (.mv (.const (.int .i64 (-1))))]) .ret) (q_ (r_ [s 54 (f_ 1 2), s 55 (l_ 54), s 56 (.len false (t 55)), s 57 (f_ 1 3), s 58 (l_ 57), s 59 (.len false (t 58)), s 60 (.bin .gtr (t 56) (t 59)), v_ 53 60]) (.cond (t 53) (q_ (r_ [s 4 (.mv (i_ 1))]) .ret) .skip))))) (q_ (r_ [s 4 (.mv (i_ 0))]) .ret)))))
theorem sCompareFacts.ir : IrAt Tryz.prog 162 sCompareFacts.code [0, 1, 2, 3, 4, 5, 6] [.tmp 4] Tryz.f162.ntmps := ir_ Tryz.func162
abbrev sCompareFacts.Ret (args : List AV) (r : AV) (frs : Fr) : Prop := Abs.Ret true Tryz.prog 162 args r frs
def pCompareFacts.code : ACode := (q_ (r_ [s 2 (.box (t 0)), s 3 (.box (t 1)), s 4 (.mv (i_ 0))]) (q_ (q_ (r_ [s 6 (f_ 0 2), s 7 (l_ 6), s 8 (f_ 0 3), s 9 (l_ 8), s 10 (.call 214 [t 7, t 9]), v_ 5 10]) (q_ (r_ [v_ 11 5, s 12 (.bin .neq (t 11) (i_ 0))]) (.cond (t 12) (q_ (r_ [v_ 13 5, v_ 4 13]) .ret) .skip))) (q_ (r_ [s 14 (f_ 1 2), s 15 (l_ 14), s 16 (f_ 1 3), s 17 (l_ 16), s 18 (.call 215 [t 15, t 17, (.func 216)]), v_ 4 18]) .ret)))
theorem pCompareFacts.ir : IrAt Tryz.prog 171 pCompareFacts.code [0, 1, 2, 3, 4, 5] [.tmp 4] Tryz.f171.ntmps := ir_ Tryz.func171
abbrev pCompareFacts.Ret (args : List AV) (r : AV) (frs : Fr) : Prop := Abs.Ret true Tryz.prog 171 args r frs
def sAreFacts.code : ACode := (q_ (r_ [s 2 mf_]) (q_ (q_ (r_ [s 3 (.mv (i_ 0))]) (.block 0 (.loop (q_ (q_ (r_ [v_ 4 3, v_ 5 0, s 6 (.len false (t 5)), s 7 (.bin .lss (t 4) (t 6))]) (.cond (t 7) .skip (.exit 0))) (q_ (.block 1 (q_ (.region true [v_ 10 0, v_ 11 3, s 12 (.iadr 2 (t 10) (t 11)), s 13 (a_ 2 12), s 14 (.call 125 [t 13]), s 15 (.not (t 14)), v_ 16 15, g 16 false 17 (.mv (t 3)), g 16 false 18 (.bin .gtr (t 17) (i_ 0)), g 16 false 19 (.mv (t 18)), g 19 true 20 (.mv (t 0)), g 19 true 21 (.mv (t 3)), g 19 true 22 (.bin .sub (t 21) (i_ 1)), g 19 true 23 (.iadr 2 (t 20) (t 22)), g 19 true 24 (a_ 2 23), g 19 true 25 (.mv (t 0)), g 19 true 26 (.mv (t 3)), g 19 true 27 (.iadr 2 (t 25) (t 26)), g 19 true 28 (a_ 2 27), g 19 true 29 (.call 162 [t 24, t 28]), g 19 true 30 (.bin .geq (t 29) (i_ 0)), g 16 false 31 (.and (t 19) (t 30)), s 32 (.or (t 16) (t 31))]) (.cond (t 32) (q_ (r_ [s 2 mf_]) .ret) .skip))) (r_ [v_ 8 3, s 9 (.bin .add (t 8) (i_ 1)), v_ 3 9])))))) (q_ (r_ [v_ 33 0, s 34 (.len false (t 33)), s 35 (.bin .leq (t 34) (i_ 24)), v_ 2 35]) .ret)))
theorem sAreFacts.ir : IrAt Tryz.prog 96 sAreFacts.code [0, 2, 3] [.tmp 2] Tryz.f96.ntmps := ir_ Tryz.func96
abbrev sAreFacts.Ret (args : List AV) (r : AV) (frs : Fr) : Prop := Abs.Ret true Tryz.prog 96 args r frs
def pAreFacts.code : ACode := (q_ (r_ [s 2 mf_]) (q_ (q_ (r_ [v_ 5 0, s 6 (.len false (t 5)), s 7 (.bin .gtr (t 6) (i_ 24))]) (.cond (t 7) (q_ (r_ [s 2 mf_]) .ret) .skip)) (q_ (q_ (r_ [v_ 8 0, s 9 (.len false (t 8)), s 10 (.mv (i_ 0))]) (.block 0 (.loop (q_ (r_ [s 11 (.bin .lss (t 10) (t 9))]) (q_ (.cond (t 11) .skip (.exit 0)) (q_ (.block 1 (q_ (r_ [v_ 12 10, s 13 (.iadr 2 (t 8) (t 10)), s 14 (a_ 2 13), s 4 (.alloc [(.string (.mk (.mk []))), (.slice none 0 0)]), v_ 3 12, ⟨none, none, (.store 2 (t 4) (t 14))⟩]) (q_ (.region true [s 15 (a_ 2 4), s 16 (.call 133 [t 15]), s 17 (.not (t 16)), v_ 18 17, g 18 false 19 (.mv (t 3)), g 18 false 20 (.bin .gtr (t 19) (i_ 0)), g 18 false 21 (.mv (t 20)), g 21 true 22 (.mv (t 0)), g 21 true 23 (.mv (t 3)), g 21 true 24 (.bin .sub (t 23) (i_ 1)), g 21 true 25 (.iadr 2 (t 22) (t 24)), g 21 true 26 (a_ 2 25), g 21 true 27 (a_ 2 4), g 21 true 28 (.call 171 [t 26, t 27]), g 21 true 29 (.bin .geq (t 28) (i_ 0)), g 18 false 30 (.and (t 21) (t 29)), s 31 (.or (t 18) (t 30))]) (.cond (t 31) (q_ (r_ [s 2 mf_]) .ret) .skip)))) (r_ [s 32 (.bin .add (t 10) (i_ 1)), v_ 10 32]))))))) (q_ (r_ [s 2 mt_]) .ret))))
theorem pAreFacts.ir : IrAt Tryz.prog 106 pAreFacts.code [0, 2, 3, 4, 8, 9, 10, 11] [.tmp 2] Tryz.f106.ntmps := ir_ Tryz.func106
abbrev pAreFacts.Ret (args : List AV) (r : AV) (frs : Fr) : Prop := Abs.Ret true Tryz.prog 106 args r frs
def sCopy.code : ACode := (q_ (r_ [s 1 (.box (t 0)), s 2 (.alloc [(.string (.mk (.mk []))), (.slice none 0 0)])]) (q_ (.held [s 3 (f_ 0 1), s 4 (l_ 3), s 5 (f_ 1 1), s 6 (l_ 5), s 7 (.call 201 [t 6])] [s 8 (.build [(.string (.mk (.mk []))), (.slice none 0 0)] [(0, 1), (1, 1)] [t 4, t 7]), ⟨none, none, (.store 2 (t 2) (t 8))⟩]) .ret))
theorem sCopy.ir : IrAt Tryz.prog 163 sCopy.code [0, 1, 2] [.cell 2 true 2] Tryz.f163.ntmps := ir_ Tryz.func163
abbrev sCopy.Ret (args : List AV) (r : AV) (frs : Fr) : Prop := Abs.Ret true Tryz.prog 163 args r frs
def psameFact.code : ACode := (q_ (r_ [s 2 (.box (t 0)), s 3 (.box (t 1)), s 4 mf_]) (q_ (r_ [s 5 (f_ 0 2), s 6 (l_ 5), s 7 (f_ 0 3), s 8 (l_ 7), s 9 (.bin .eql (t 6) (t 8)), v_ 10 9, g 10 true 11 (f_ 1 2), g 10 true 12 (l_ 11), g 10 true 13 (f_ 1 3), g 10 true 14 (l_ 13), g 10 true 15 (.call 186 [t 12, t 14]), s 16 (.and (t 10) (t 15)), v_ 4 16]) .ret))
theorem psameFact.ir : IrAt Tryz.prog 135 psameFact.code [0, 1, 2, 3, 4] [.tmp 4] Tryz.f135.ntmps := ir_ Tryz.func135
abbrev psameFact.Ret (args : List AV) (r : AV) (frs : Fr) : Prop := Abs.Ret true Tryz.prog 135 args r frs
def pcopyFact.code : ACode := (q_ (r_ [s 1 (.box (t 0)), s 2 (.alloc [(.string (.mk (.mk []))), (.slice none 0 0)])]) (q_ (.held [s 3 (f_ 0 1), s 4 (l_ 3), s 5 (f_ 1 1), s 6 (l_ 5), s 7 (.call 192 [t 6])] [s 8 (.build [(.string (.mk (.mk []))), (.slice none 0 0)] [(0, 1), (1, 1)] [t 4, t 7]), ⟨none, none, (.store 2 (t 2) (t 8))⟩]) .ret))
theorem pcopyFact.ir : IrAt Tryz.prog 144 pcopyFact.code [0, 1, 2] [.cell 2 true 2] Tryz.f144.ntmps := ir_ Tryz.func144
abbrev pcopyFact.Ret (args : List AV) (r : AV) (frs : Fr) : Prop := Abs.Ret true Tryz.prog 144 args r frs
end Go.Proofs.YtiloafmpienmhaaGreat
namespace Go.Proofs.YtiloafmpienmhaaGreat
open Abs
def isFactF (f : Fct) : Bool := nameF f.1 && decide ((f.2.length : Int) ≤ 3) && f.2.all atomF
theorem allA_no {x : List Str} {i : Nat} (hi : i < x.length) (h : atomF (x.getD i []) = false) : x.all atomF = false := by
  rw [List.all_eq_false]
  refine ⟨x.getD i [], ?_, by rw [h]; simp⟩
  simp [List.getD, hi]
theorem allA_succ {x : List Str} {i : Nat} (hi : i < x.length) (h : (x.take i).all atomF = true) (hc : atomF (x.getD i []) = true) : (x.take (i + 1)).all atomF = true := by
  rw [take_succ' [] hi, List.all_append, h]; simpa using hc
theorem sIsFact.ret (f : Fct) (h : tFct.size f ≤ 1048576) : sIsFact.Ret [.agg (oldL (tFct.q f))] (.val (.bool (isFactF f))) [] := by
  refine sIsFact.ir.of rfl ?_
  rw [tFct_size, tStrs_size] at h
  skip
  refine ALoop.mk Nat (fun i => ⟨[(1, .bptr 0 0), (3, .val (.int .i64 i))], [.cells .var (oldL (tFct.q f))], []⟩) (fun i => i ≤ f.2.length ∧ (f.2.take i).all atomF = true) (fun i => f.2.length - i) ⟨0, ⟨Nat.zero_le _, rfl⟩, ?_⟩ (fun i hi => ?_)
  · repeat' first
      | exact trivial | refine wl_ ?_ ?_ ?_ ?_ | refine And.intro ?_ ?_ | with_reducible rfl | exact ble_ | refine AV.int_congr ?_ | (apply rfl)
  repeat' first
    | (conv => whnf
       first | refine Need.mk (fun h => h) ?_ | refine Need.mk rfl ?_ | refine Ix.strsF rfl ?_ | refine Fork.dec (fun _ => ?_) (fun _ => ?_) | refine Fork.neg (fun _ => ?_) (fun _ => ?_) | refine Round.mk ?_ | refine LitO.own rfl ?_ | refine FinVal.keep ?_ | refine Final.mk ?_ rfl | refine ACall.scalA _ _ (sIsAtom.ret _ ?_) rfl ?_ | refine ACall.scalA _ _ (sIsName.ret _ ?_) rfl ?_)
    | refine AV.bool_congr ?_
  all_goals try simp only [length_rows, length_strs, length_oldLL, List.length_map, Int.toNat_natCast] at *
  · have := str_le (l := f.2) (i := i) (by omega); omega
  · rename_i h2 h1
    simp [isFactF, allA_no (by omega) h2]
  · rename_i h2 h1
    refine ⟨i + 1, ⟨by omega, allA_succ (by omega) hi.2 h2⟩, ?_, by omega⟩
    repeat' first
      | exact trivial | refine wl_ ?_ ?_ ?_ ?_ | refine And.intro ?_ ?_ | with_reducible rfl | exact ble_ | refine AV.int_congr ?_ | (apply rfl)
    rw [wrap64 (by omega) (by omega)]; rfl
  · omega
  · have := hi.2
    rw [List.take_of_length_le (by omega)] at this
    simp [isFactF, this]
def cmpArgs : List Str → List Str → Int
  | [], [] => 0
  | [], _ :: _ => -1
  | _ :: _, [] => 1
  | a :: l, b :: m => if cmpA a b ≠ 0 then cmpA a b else cmpArgs l m
@[irreducible] def cmpF (f g : Fct) : Int := if f.1 = g.1 then cmpArgs f.2 g.2 else scmp f.1 g.1
theorem scmp_zero {a b : Str} : scmp a b = 0 ↔ a = b := by
  unfold scmp
  constructor
  · intro h
    split at h
    · omega
    · split at h
      · assumption
      · omega
  · rintro rfl; simp [bl_irrefl]
theorem cmpArgs_drop {l m : List Str} {i : Nat} (h1 : i < l.length) (h2 : i < m.length) :
    cmpArgs (l.drop i) (m.drop i) = if cmpA (l.getD i []) (m.getD i []) ≠ 0 then cmpA (l.getD i []) (m.getD i []) else cmpArgs (l.drop (i + 1)) (m.drop (i + 1)) := by
  rw [List.drop_eq_getElem_cons h1, List.drop_eq_getElem_cons h2, cmpArgs]
  simp [List.getD, h1, h2]
theorem cmpArgs_end {l m : List Str} (h : l = [] ∨ m = []) : cmpArgs l m = if l.length < m.length then -1 else if m.length < l.length then 1 else 0 := by
  cases l <;> cases m <;> simp_all [cmpArgs]
theorem sCompareFacts.ret (f g : Fct) (h : tFct.size f ≤ 1048576) (h' : tFct.size g ≤ 1048576) : sCompareFacts.Ret [.agg (oldL (tFct.q f)), .agg (oldL (tFct.q g))] (.val (.int .i64 (cmpF f g))) [] := by
  refine sCompareFacts.ir.of rfl ?_
  rw [tFct_size, tStrs_size] at h h'
  repeat' first
    | (conv => whnf
       first | refine Fork.sne (fun _ => ?_) (fun _ => ?_) | refine FinVal.keep ?_ | refine Final.mk ?_ rfl | refine ACall.scalA _ _ (sCmp.ret _ _) rfl ?_)
    | refine AV.int_congr ?_
  · rename_i h1
    unfold cmpF; rw [if_neg h1]
  rename_i h1
  skip
  refine ALoop.mk Nat (fun i => ⟨[(2, .bptr 0 0), (3, .bptr 1 0), (5, .val (.int .i64 i))], [.cells .var (oldL (tFct.q f)), .cells .var (oldL (tFct.q g))], []⟩) (fun i => i ≤ f.2.length ∧ i ≤ g.2.length ∧ cmpArgs (f.2.drop i) (g.2.drop i) = cmpF f g) (fun i => f.2.length - i) ⟨0, ⟨Nat.zero_le _, Nat.zero_le _, by unfold cmpF; rw [if_pos h1]; rfl⟩, ?_⟩ (fun i hi => ?_)
  · repeat' first
      | exact trivial | refine wl_ ?_ ?_ ?_ ?_ | refine And.intro ?_ ?_ | with_reducible rfl | exact ble_ | refine AV.int_congr ?_ | (apply rfl)
  obtain ⟨hi1, hi2, hi3⟩ := hi
  repeat' first
    | (conv => whnf
       first | refine Need.mk (fun h => h) ?_ | refine Need.mk rfl ?_ | refine Ix.strsF rfl ?_ | refine Fork.dec (fun _ => ?_) (fun _ => ?_) | refine Fork.bne (fun _ => ?_) (fun _ => ?_) | refine Fork.mk (fun _ => ?_) (fun _ => ?_) | refine Round.mk ?_ | refine LitO.own rfl ?_ | refine FinVal.keep ?_ | refine Final.mk ?_ rfl | refine AQCall.mkA _ _ (fun hg => sCompareAtoms.ret _ _ ?_ ?_) rfl ?_)
    | refine AV.int_congr ?_
  all_goals try simp only [length_rows, length_strs, length_oldLL, List.length_map, Int.toNat_natCast] at *
  · simp only [Bool.and_eq_true, decide_eq_true_eq] at *
    have := str_le (l := f.2) (i := i) (by omega); omega
  · simp only [Bool.and_eq_true, decide_eq_true_eq] at *
    have := str_le (l := g.2) (i := i) (by omega); omega
  · rename_i h2 h3
    simp only [Bool.and_eq_true, decide_eq_true_eq] at h3
    rw [← hi3, cmpArgs_drop (by omega) (by omega), if_pos h2]
  · rename_i h2 h3
    simp only [Bool.and_eq_true, decide_eq_true_eq] at h3
    refine ⟨i + 1, ⟨by omega, by omega, ?_⟩, ?_, by omega⟩
    · rw [cmpArgs_drop (by omega) (by omega), if_neg (by simpa using h2)] at hi3; exact hi3
    · repeat' first
        | exact trivial | refine wl_ ?_ ?_ ?_ ?_ | refine And.intro ?_ ?_ | with_reducible rfl | exact ble_ | refine AV.int_congr ?_ | (apply rfl)
      rw [wrap64 (by omega) (by omega)]; rfl
  all_goals rename_i h2
  all_goals simp only [Bool.and_eq_false_iff, decide_eq_false_iff_not] at *
  all_goals rw [← hi3, cmpArgs_end (by rw [List.drop_eq_nil_iff, List.drop_eq_nil_iff]; omega)]
  all_goals simp only [List.length_drop]
  all_goals ((repeat' split) <;> omega)
end Go.Proofs.YtiloafmpienmhaaGreat
namespace Go.Proofs.YtiloafmpienmhaaGreat
open Abs
theorem sIsVar.ret (x : Str) (hx : x.length ≤ 1048576) : sIsVar.Ret [.str x] (.val (.bool (varF x))) [] := by
  refine sIsVar.ir.of rfl ?_
  repeat' first
    | (conv => whnf
       first | refine Need.mk (fun h => h) ?_ | refine Need.mk rfl ?_ | refine Need.fin ?_ | refine LitO.own rfl ?_ | refine FinVal.keep ?_ | refine Final.mk ?_ rfl | refine AGCall.mkA _ _ (fun hg => sIsAtom.ret _ ?_) rfl ?_)
    | refine AV.bool_congr ?_
  · simp; omega
  · simp [varF]
def hasP (x p : Str) : Bool := decide ((p.length : Int) ≤ x.length) && x.take p.length == p
def cutP (x p : Str) : Str := if hasP x p then x.drop p.length else x
theorem slHasPrefix.ret (x p : Str) : slHasPrefix.Ret [.str x, .str p] (.val (.bool (hasP x p))) [] := by
  refine slHasPrefix.ir.of rfl ?_
  repeat' first
    | (conv => whnf
       first | refine Need.mk (fun h => h) ?_ | refine Need.mk rfl ?_ | refine Need.fin ?_ | refine LitO.own rfl ?_ | refine FinVal.keep ?_ | refine Final.mk rfl rfl)
  all_goals simp [hasP]
theorem slCutPrefix.ret (x p : Str) : slCutPrefix.Ret [.str x, .str p] (.tup [.str (cutP x p), .val (.bool (hasP x p))]) [] := by
  refine slCutPrefix.ir.of rfl ?_
  repeat' first
    | (conv => whnf
       first | refine Need.mk ?_ ?_ | refine Fork.neg (fun _ => ?_) (fun _ => ?_) | refine FinVal.keep ?_ | refine Final.mk ?_ rfl | refine ACall.scalA _ _ (slHasPrefix.ret _ _) rfl ?_)
  · rename_i h; simp [cutP, h]
  all_goals first
    | (rename_i h; simp only [hasP, Bool.and_eq_true, decide_eq_true_eq] at h; simp; omega)
    | (rename_i h; simp [cutP, h]; done)
    | (rename_i h; simp only [hasP, Bool.and_eq_true, decide_eq_true_eq] at h; omega)
theorem cutPrefix.ret (x p : Str) : cutPrefix.Ret [.str x, .str p] (.tup [.str (cutP x p), .val (.bool (hasP x p))]) [] := by
  refine cutPrefix.ir.of rfl ?_
  repeat' first
    | (conv => whnf
       first | refine FinVal.keep ?_ | refine Final.mk rfl rfl | refine ACall.scalA _ _ (slCutPrefix.ret _ _) rfl ?_)
theorem var_eq (x : Str) : (hasP x [63] && atomF (cutP x [63])) = varF x := by
  match x with
  | [] => rfl
  | [c] =>
    have : varF [c] = false := by simp [varF]
    rw [this]
    cases h : hasP [c] [63] with
    | false => rfl
    | true => simp [cutP, h, atomF]
  | c :: d :: x =>
    by_cases hc : c = 63
    · subst hc
      have h : hasP (63 :: d :: x) [63] = true := by simp [hasP]; omega
      simp [h, cutP, varF]; omega
    · have h : hasP (c :: d :: x) [63] = false := by simp [hasP, hc]
      have h2 : ¬ (c.toNat : Int) = 63 := fun e => hc (by
        have : c.toNat = 63 := by omega
        rw [← UInt8.ofNat_toNat (x := c), this]; rfl)
      simp [h, varF, h2]
theorem pIsVar.ret (x : Str) (hx : x.length ≤ 1048576) : pIsVar.Ret [.str x] (.val (.bool (varF x))) [] := by
  refine pIsVar.ir.of rfl ?_
  repeat' first
    | (conv => whnf
       first | refine Need.mk (fun h => h) ?_ | refine FinVal.keep ?_ | refine Final.mk ?_ rfl | refine AGCall.mkA _ _ (fun hg => pIsAtom.ret _ ?_) rfl ?_ | refine ACall.scalA _ _ (cutPrefix.ret _ _) rfl ?_)
    | refine AV.bool_congr ?_
  · simp only [cutP]; split <;> simp <;> omega
  · exact var_eq x
theorem sIsTerm.ret (x : Str) (hx : x.length ≤ 1048576) : sIsTerm.Ret [.str x] (.val (.bool (atomF x || varF x))) [] := by
  refine sIsTerm.ir.of rfl ?_
  repeat' first
    | (conv => whnf
       first | refine Need.mk (fun h => h) ?_ | refine FinVal.keep ?_ | refine Final.mk rfl rfl | refine ACall.scalA _ _ (sIsAtom.ret _ ?_) rfl ?_ | refine AGCall.mkA _ _ (fun hg => sIsVar.ret _ ?_) rfl ?_)
  all_goals exact hx
theorem pIsTerm.ret (x : Str) (hx : x.length ≤ 1048576) : pIsTerm.Ret [.str x] (.val (.bool (atomF x || varF x))) [] := by
  refine pIsTerm.ir.of rfl ?_
  repeat' first
    | (conv => whnf
       first | refine Need.mk (fun h => h) ?_ | refine FinVal.keep ?_ | refine Final.mk rfl rfl | refine ACall.scalA _ _ (pIsAtom.ret _ ?_) rfl ?_ | refine AGCall.mkA _ _ (fun hg => pIsVar.ret _ ?_) rfl ?_)
  all_goals exact hx
end Go.Proofs.YtiloafmpienmhaaGreat
namespace Go.Proofs.YtiloafmpienmhaaGreat
open Abs
abbrev VPattern := Str × List Str
instance : DecidableEq VPattern := instDecidableEqProd
def tPattern : Ty VPattern := Ty.pair Ty.str tStrs
theorem tPattern_size (a : VPattern) : tPattern.size a = a.1.length + tStrs.size a.2 := rfl
theorem Abs.ACall.mk_Pattern {C : Con} {lend : Bool} {f : Nat} {vs : List AV} {b : List ABox} {fr : Fr} {k : AV → List ABox → Fr → Prop} (ys : List AV) (a : VPattern) (h : C.ret f ys (.agg (tPattern.tk a 0)) (tPattern.fr a)) (hv : SeesL Sees0 vs ys)
    (hk : k (.agg (tPattern.tk a fr.length)) b (fr ++ tPattern.fr a)) : ACall C lend f vs b fr k := ACall.mkA tPattern ys a h hv hk
theorem toPattern.ret (a : VPattern) (h : tPattern.size a ≤ 1048576) : toPattern.Ret [.agg (oldL (tPattern.q a))] (.agg (tPattern.tk a 0)) (tPattern.fr a) := by
  refine toPattern.ir.of rfl ?_
  rw [tPattern_size] at h
  have hf1 := tStrs_size a.2
  repeat' first
    | (conv => whnf
       first | refine Need.mk ⟨rfl, Nat.le_of_ble_eq_true rfl⟩ ?_ | refine nb_ ?_ | refine FinAgg.keep ?_ | refine Final.mk rfl rfl | refine ACall.mk_StringS _ _ (toStringS.ret _ ?_) (by repeat' first | exact SeesL.nil | refine SeesL.cons ?_ ?_ | exact SeesB.of0 (Sees0.val _) | exact SeesB.of0 (Sees0.str _) | exact SeesB.of0 (Sees0.olds _ _) | exact SeesB.of0 (Sees0.old _) | exact SeesB.of0 (Sees0.oldagg _) | exact SeesB.of0 Sees0.nil | exact Sees0.val _ | exact Sees0.str _ | exact Sees0.olds _ _ | exact Sees0.old _ | exact Sees0.oldagg _ | exact Sees0.nil | exact SeesB.of0 (Sees0.any _) | assumption | exact sees_gv _ _ _ (by assumption) (by first | assumption | exact BoxIn.last _ _ | exact BoxIn.more (BoxIn.last _ _) _) | refine SeesB.agg ?_ | refine Sees0.agg ?_ | exact SeesB.of0 (Sees0.clo SeesL.nil SeesL.nil) | exact Sees0.clo SeesL.nil SeesL.nil | exact SeesB.of0 (Sees0.list rfl) | exact Sees0.list rfl) ?_)
  all_goals first
    | omega
    | (refine congrArg AV.agg ?_
       repeat' first
         | refine cons_congr ?_ ?_
         | refine tok_congr ?_ ?_
         | refine congrArg (tks _ _) ?_
         | rfl
       all_goals (simp [Ty.pair, Ty.str, Ty.int, Ty.bool, Nat.add_assoc, Ty.plain, tStrs]; done))
    | (simp [tPattern, Ty.pair, Ty.str, Ty.int, Ty.bool, List.append_assoc, Nat.add_assoc, Ty.plain, tStrs]; done)
theorem szPattern.ret (f : VPattern) (a : Int) (h0 : 0 ≤ a) (ha : a ≤ 1048576) (hb : tPattern.bd f) :
    szPattern.Ret [.agg (oldL (tPattern.q f)), .val (.int .i64 a)] (.val (.int .i64 (left a (tPattern.size f)))) [] := by
  refine szPattern.ir.of rfl ?_
  have hz := tPattern_size f
  obtain ⟨hb0, hb1⟩ := hb
  have hb0 : f.1.length ≤ 9223372036854775807 := hb0
  obtain ⟨hbl1, hbe1⟩ := hb1
  have hy1 := szT_eq f.2
  by_cases c1 : a < (f.1.length : Int)
  · have e0 : IntKind.i64.wrap (a - (f.1.length : Int)) = a - (f.1.length : Int) := by rw [wrap64 (by omega) (by omega)]
    repeat' first
      | (conv => whnf
         first | refine Need.mk rfl ?_ | refine Fork.decYes (by omega) ?_ | refine LitO.own rfl ?_ | refine FinVal.keep ?_ | refine Final.mk ?_ rfl)
      | refine AV.int_congr ?_
    all_goals first
      | assumption
      | omega
      | exact left_eq (by omega)
  by_cases c2 : a < (f.1.length : Int) + (szT f.2 : Int)
  · have e0 : IntKind.i64.wrap (a - (f.1.length : Int)) = a - (f.1.length : Int) := by rw [wrap64 (by omega) (by omega)]
    have e1 : left (IntKind.i64.wrap (a - (f.1.length : Int))) (szT f.2) = -1 := by rw [e0, left, if_pos (by omega)]
    repeat' first
      | (conv => whnf
         first | refine Need.mk rfl ?_ | refine Fork.decYes (by omega) ?_ | refine Fork.decNo (by omega) ?_ | refine LitO.own rfl ?_ | refine FinVal.keep ?_ | refine Final.mk ?_ rfl | refine ACall.scalA _ _ (szStringS.ret _ _ ?_ ?_ ?_ ?_) rfl ?_)
      | refine AV.int_congr ?_
    all_goals first
      | assumption
      | omega
      | exact left_eq (by omega)
  have e0 : IntKind.i64.wrap (a - (f.1.length : Int)) = a - (f.1.length : Int) := by rw [wrap64 (by omega) (by omega)]
  have e1 : left (IntKind.i64.wrap (a - (f.1.length : Int))) (szT f.2) = a - (f.1.length : Int) - (szT f.2 : Int) := by rw [e0, left, if_neg (by omega)]
  repeat' first
    | (conv => whnf
       first | refine Need.mk rfl ?_ | refine Fork.decNo (by omega) ?_ | refine LitO.own rfl ?_ | refine FinVal.keep ?_ | refine Final.mk ?_ rfl | refine ACall.scalA _ _ (szStringS.ret _ _ ?_ ?_ ?_ ?_) rfl ?_)
    | refine AV.int_congr ?_
  all_goals first
    | assumption
    | omega
    | exact left_eq (by omega)
theorem eqPattern.big (f g : VPattern) (h : tPattern.size f ≤ 1099511627775) : eqPattern.Ret [.agg (oldL (tPattern.q f)), .agg (oldL (tPattern.q g))] (.val (.bool (decide (f = g)))) [] := by
  refine eqPattern.ir.of rfl ?_
  have hz := tPattern_size f
  repeat' first
    | (conv => whnf
       first | refine Fork.sne (fun _ => ?_) (fun _ => ?_) | refine Fork.neg (fun _ => ?_) (fun _ => ?_) | refine FinVal.keep ?_ | refine Final.mk ?_ rfl | refine ACall.scalA _ _ (eqStringS.big _ _ ?_) rfl ?_)
    | refine AV.bool_congr ?_
  all_goals first
    | omega
    | (simp only [tStrs_size, tInts_size] at *; omega)
    | (obtain ⟨x0, x1⟩ := f; obtain ⟨y0, y1⟩ := g; simp_all)
end Go.Proofs.YtiloafmpienmhaaGreat
namespace Go.Proofs.YtiloafmpienmhaaGreat
open Abs
def sIsPattern.code : ACode := (q_ (r_ [s 1 (.box (t 0)), s 2 mf_]) (q_ (q_ (r_ [s 3 (.mv (i_ 0))]) (.block 0 (.loop (q_ (q_ (r_ [v_ 4 3, s 5 (f_ 1 1), s 6 (l_ 5), s 7 (.len false (t 6)), s 8 (.bin .lss (t 4) (t 7))]) (.cond (t 8) .skip (.exit 0))) (q_ (.block 1 (q_ (r_ [s 11 (f_ 1 1), s 12 (l_ 11), v_ 13 3, s 14 (.iadr 1 (t 12) (t 13)), s 15 (l_ 14), s 16 (.call 197 [t 15]), s 17 (.not (t 16))]) (.cond (t 17) (q_ (r_ [s 2 mf_]) .ret) .skip))) (r_ [v_ 9 3, s 10 (.bin .add (t 9) (i_ 1)), v_ 3 10])))))) (q_ (r_ [s 18 (f_ 0 1), s 19 (l_ 18), s 20 (.call 126 [t 19]), v_ 21 20, g 21 true 22 (f_ 1 1), g 21 true 23 (l_ 22), g 21 true 24 (.len false (t 23)), g 21 true 25 (.bin .leq (t 24) (i_ 3)), s 26 (.and (t 21) (t 25)), v_ 2 26]) .ret)))
theorem sIsPattern.ir : IrAt Tryz.prog 196 sIsPattern.code [0, 1, 2, 3] [.tmp 2] Tryz.f196.ntmps := ir_ Tryz.func196
abbrev sIsPattern.Ret (args : List AV) (r : AV) (frs : Fr) : Prop := Abs.Ret true Tryz.prog 196 args r frs
def pIsPattern.code : ACode := (q_ (r_ [s 1 (.box (t 0)), s 2 mf_]) (q_ (r_ [s 3 (f_ 0 1), s 4 (l_ 3), s 5 (f_ 1 1), s 6 (l_ 5), s 7 (.call 184 [t 4, t 6, (.func 239)]), v_ 2 7]) .ret))
theorem pIsPattern.ir : IrAt Tryz.prog 221 pIsPattern.code [0, 1, 2] [.tmp 2] Tryz.f221.ntmps := ir_ Tryz.func221
abbrev pIsPattern.Ret (args : List AV) (r : AV) (frs : Fr) : Prop := Abs.Ret true Tryz.prog 221 args r frs
def sVarsOf.code : ACode := (q_ (r_ [s 1 (.box (t 0)), s 2 (.mv (.const (.slice none 0 0)))]) (q_ (r_ [s 5 (.bslice 9 1 true []), v_ 3 5]) (q_ (q_ (r_ [s 4 (.mv (i_ 0))]) (.block 0 (.loop (q_ (q_ (r_ [v_ 6 4, s 7 (f_ 1 1), s 8 (l_ 7), s 9 (.len false (t 8)), s 10 (.bin .lss (t 6) (t 9))]) (.cond (t 10) .skip (.exit 0))) (q_ (.block 1 (q_ (r_ [s 13 (f_ 1 1), s 14 (l_ 13), v_ 15 4, s 16 (.iadr 1 (t 14) (t 15)), s 17 (l_ 16), s 18 (.call 198 [t 17])]) (.cond (t 18) (r_ [v_ 19 3, s 20 (f_ 1 1), s 21 (l_ 20), v_ 22 4, s 23 (.iadr 1 (t 21) (t 22)), s 24 (l_ 23), s 25 (.call 195 [t 19, t 24]), v_ 3 25]) .skip))) (r_ [v_ 11 4, s 12 (.bin .add (t 11) (i_ 1)), v_ 4 12])))))) (q_ (r_ [v_ 26 3, v_ 2 26]) .ret))))
theorem sVarsOf.ir : IrAt Tryz.prog 160 sVarsOf.code [0, 1, 2, 3, 4] [.tmp 2] Tryz.f160.ntmps := ir_ Tryz.func160
abbrev sVarsOf.Own (args : List AV) (x : Tr) : Prop := Abs.Own true Tryz.prog 160 args x
abbrev sVarsOf.Ret (args : List AV) (r : AV) (frs : Fr) : Prop := Abs.Ret true Tryz.prog 160 args r frs
def pVarsOf.code : ACode := (q_ (r_ [s 1 (.box (t 0)), s 2 (.mv (.const (.slice none 0 0)))]) (q_ (r_ [s 3 (f_ 1 1), s 4 (l_ 3), s 5 (.call 230 [t 4]), v_ 2 5]) .ret))
theorem pVarsOf.ir : IrAt Tryz.prog 211 pVarsOf.code [0, 1, 2] [.tmp 2] Tryz.f211.ntmps := ir_ Tryz.func211
abbrev pVarsOf.Own (args : List AV) (x : Tr) : Prop := Abs.Own true Tryz.prog 211 args x
abbrev pVarsOf.Ret (args : List AV) (r : AV) (frs : Fr) : Prop := Abs.Ret true Tryz.prog 211 args r frs
def pSamePattern.code : ACode := (q_ (r_ [s 2 (.box (t 0)), s 3 (.box (t 1)), s 4 mf_]) (q_ (r_ [s 5 (f_ 0 2), s 6 (l_ 5), s 7 (f_ 0 3), s 8 (l_ 7), s 9 (.bin .eql (t 6) (t 8)), v_ 10 9, g 10 true 11 (f_ 1 2), g 10 true 12 (l_ 11), g 10 true 13 (f_ 1 3), g 10 true 14 (l_ 13), g 10 true 15 (.call 186 [t 12, t 14]), s 16 (.and (t 10) (t 15)), v_ 4 16]) .ret))
theorem pSamePattern.ir : IrAt Tryz.prog 223 pSamePattern.code [0, 1, 2, 3, 4] [.tmp 4] Tryz.f223.ntmps := ir_ Tryz.func223
abbrev pSamePattern.Ret (args : List AV) (r : AV) (frs : Fr) : Prop := Abs.Ret true Tryz.prog 223 args r frs
def pisTuple.code : ACode := (q_ (r_ [s 6 mf_]) (q_ (q_ (r_ [v_ 9 0, s 10 (.call 134 [t 9]), s 11 (.not (t 10)), v_ 12 11, g 12 false 13 (.mv (t 1)), g 12 false 14 (.len false (t 13)), g 12 false 15 (.bin .gtr (t 14) (i_ 3)), s 16 (.or (t 12) (t 15))]) (.cond (t 16) (q_ (r_ [s 6 mf_]) .ret) .skip)) (q_ (q_ (r_ [v_ 17 1, s 18 (.len false (t 17)), s 19 (.mv (i_ 0))]) (.block 0 (.loop (q_ (r_ [s 20 (.bin .lss (t 19) (t 18))]) (q_ (.cond (t 20) .skip (.exit 0)) (q_ (.block 1 (q_ (r_ [s 21 (.iadr 1 (t 17) (t 19)), s 22 (l_ 21), v_ 8 22]) (q_ (r_ [v_ 23 2, v_ 24 8, s 25 (.callv (t 23) [t 24]), s 26 (.not (t 25))]) (.cond (t 26) (q_ (r_ [s 6 mf_]) .ret) .skip)))) (r_ [s 27 (.bin .add (t 19) (i_ 1)), v_ 19 27]))))))) (q_ (r_ [s 6 mt_]) .ret))))
theorem pisTuple.ir : IrAt Tryz.prog 184 pisTuple.code [0, 1, 2, 6, 8, 17, 18, 19, 20] [.tmp 6] Tryz.f184.ntmps := ir_ Tryz.func184
abbrev pisTuple.Ret (args : List AV) (r : AV) (frs : Fr) : Prop := Abs.Ret true Tryz.prog 184 args r frs
def sHasText.code : ACode := (q_ (r_ [s 4 mf_]) (q_ (q_ (r_ [s 5 (.mv (i_ 0))]) (.block 0 (.loop (q_ (q_ (r_ [v_ 6 5, v_ 7 0, s 8 (.len false (t 7)), s 9 (.bin .lss (t 6) (t 8))]) (.cond (t 9) .skip (.exit 0))) (q_ (.block 1 (q_ (r_ [v_ 12 0, v_ 13 5, s 14 (.iadr 1 (t 12) (t 13)), s 15 (l_ 14), v_ 16 1, s 17 (.bin .eql (t 15) (t 16))]) (.cond (t 17) (q_ (r_ [s 4 mt_]) .ret) .skip))) (r_ [v_ 10 5, s 11 (.bin .add (t 10) (i_ 1)), v_ 5 11])))))) (q_ (r_ [s 4 mf_]) .ret)))
theorem sHasText.ir : IrAt Tryz.prog 156 sHasText.code [0, 1, 4, 5] [.tmp 4] Tryz.f156.ntmps := ir_ Tryz.func156
abbrev sHasText.Ret (args : List AV) (r : AV) (frs : Fr) : Prop := Abs.Ret true Tryz.prog 156 args r frs
def slContains.code : ACode := (q_ (r_ [s 4 mf_]) (q_ (r_ [v_ 5 0, v_ 6 1, s 7 (.call 242 [t 5, t 6]), s 8 (.bin .geq (t 7) (i_ 0)), v_ 4 8]) .ret))
theorem slContains.ir : IrAt Tryz.prog 228 slContains.code [0, 1, 4] [.tmp 4] Tryz.f228.ntmps := ir_ Tryz.func228
abbrev slContains.Ret (args : List AV) (r : AV) (frs : Fr) : Prop := Abs.Ret true Tryz.prog 228 args r frs
def slIndex.code : ACode := (q_ (r_ [s 4 (.mv (i_ 0))]) (q_ (q_ (r_ [v_ 6 0, s 7 (.len false (t 6)), s 8 (.mv (i_ 0))]) (.block 0 (.loop (q_ (r_ [s 9 (.bin .lss (t 8) (t 7))]) (q_ (.cond (t 9) .skip (.exit 0)) (q_ (.block 1 (q_ (r_ [v_ 10 8, v_ 5 10]) (q_ (r_ [v_ 11 1, v_ 12 0, v_ 13 5, s 14 (.iadr 1 (t 12) (t 13)), s 15 (l_ 14), s 16 (.bin .eql (t 11) (t 15))]) (.cond (t 16) (q_ (r_ [v_ 17 5, v_ 4 17]) .ret) .skip)))) (r_ [s 18 (.bin .add (t 8) (i_ 1)), v_ 8 18]))))))) (q_ (r_ [s 4 (.mv (.const (.int .i64 (-1))))]) .ret)))
theorem slIndex.ir : IrAt Tryz.prog 242 slIndex.code [0, 1, 4, 5, 7, 8, 9] [.tmp 4] Tryz.f242.ntmps := ir_ Tryz.func242
abbrev slIndex.Ret (args : List AV) (r : AV) (frs : Fr) : Prop := Abs.Ret true Tryz.prog 242 args r frs
end Go.Proofs.YtiloafmpienmhaaGreat
