/-
  What stands below some laws' proofs, part 1: contracts of functions, by an evaluator.
-/
import Derived.Test.YtimcfgokocihnaaGreatK5
import Derived.Laws.RangeAny
import Derived.Sort.Row
import Derived.Sort.Grow
import Derived.Shelf.Sort.Plain
import Derived.Shelf.Slices.CompactS
import Derived.Shelf.Slices.In.SortNone
import Derived.Test.YtimcfgokocihnaaGreatProg
import Derived.Lib.SlicesCompact
import Derived.Sort.Statements
import Derived.Maps.Own
import Derived.Shelf.Spec.SlicesGrow
import Derived.Ground.Names8Prog
import Derived.Shelf.Strings.OnBuilder
import Derived.Test.YtimcfgokocihnaaGreatRows
import Derived.ProofKit
import Derived.Deep.Slices
namespace Go.Proofs.YtimcfgokocihnaaGreat
open Abs
def eqAction.code : ACode := (.seq (.region false [s 2 (.box (t 0)), s 3 (.box (t 1)), s 4 (.mv (.const (.bool false)))]) (.seq (.seq (.region false [s 5 (.fadr 0 (t 2)), s 6 (.load false 1 (t 5)), s 7 (.fadr 0 (t 3)), s 8 (.load false 1 (t 7)), s 9 (.bin .neq (t 6) (t 8))]) (.cond (t 9) (.seq (.region false [s 4 (.mv (.const (.bool false)))]) .ret) .skip)) (.seq (.seq (.region false [s 10 (.fadr 1 (t 2)), s 11 (.load true 2 (t 10)), s 12 (.fadr 1 (t 3)), s 13 (.load true 2 (t 12)), s 14 (.call 87 [(t 11), (t 13)]), s 15 (.not (t 14))]) (.cond (t 15) (.seq (.region false [s 4 (.mv (.const (.bool false)))]) .ret) .skip)) (.seq (.region false [s 4 (.mv (.const (.bool true)))]) .ret))))
def eqAction.keep : List Nat := [0, 1, 2, 3, 4]
def eqAction.res : List RRes := [.tmp 4]
theorem eqAction.of {mo : Bool} {args : List AV} {r : AV} {frs : Fr} (hn : Nat.ble args.length Tryz.f67.ntmps = true) (h : aCode (Kn mo Tryz.prog) eqAction.keep 0 eqAction.code (doneK eqAction.res r frs) ⟨argEnv 0 args, [], []⟩) : Abs.Ret mo Tryz.prog 67 args r frs :=
  Abs.Ret.of_ir Tryz.func67 rfl (by kernel_rfl) (Nat.le_of_ble_eq_true hn) (by kernel_rfl) (by kernel_rfl) h
abbrev eqAction.Ret (args : List AV) (r : AV) (frs : Fr) : Prop := Abs.Ret true Tryz.prog 67 args r frs
def eqActionS.code : ACode := (.seq (.region false [s 4 (.mv (.const (.bool false)))]) (.seq (.seq (.region false [s 6 (.mv (t 0)), s 7 (.len false (t 6)), s 8 (.mv (t 1)), s 9 (.len false (t 8)), s 10 (.bin .neq (t 7) (t 9))]) (.cond (t 10) (.seq (.region false [s 4 (.mv (.const (.bool false)))]) .ret) .skip)) (.seq (.seq (.region false [s 5 (.mv (.const (.int .i64 0)))]) (.block 0 (.loop (.seq (.seq (.region false [s 11 (.mv (t 5)), s 12 (.mv (t 0)), s 13 (.len false (t 12)), s 14 (.bin .lss (t 11) (t 13))]) (.cond (t 14) .skip (.exit 0))) (.seq (.block 1 (.seq (.region true [s 17 (.mv (t 0)), s 18 (.mv (t 5)), s 19 (.iadr 3 (t 17) (t 18)), s 20 (.load true 3 (t 19)), s 21 (.mv (t 1)), s 22 (.mv (t 5)), s 23 (.iadr 3 (t 21) (t 22)), s 24 (.load true 3 (t 23)), s 25 (.call 67 [(t 20), (t 24)]), s 26 (.not (t 25))]) (.cond (t 26) (.seq (.region false [s 4 (.mv (.const (.bool false)))]) .ret) .skip))) (.region false [s 15 (.mv (t 5)), s 16 (.bin .add (t 15) (.const (.int .i64 1))), s 5 (.mv (t 16))])))))) (.seq (.region false [s 4 (.mv (.const (.bool true)))]) .ret))))
def eqActionS.keep : List Nat := [0, 1, 4, 5]
def eqActionS.res : List RRes := [.tmp 4]
theorem eqActionS.of {mo : Bool} {args : List AV} {r : AV} {frs : Fr} (hn : Nat.ble args.length Tryz.f39.ntmps = true) (h : aCode (Kn mo Tryz.prog) eqActionS.keep 0 eqActionS.code (doneK eqActionS.res r frs) ⟨argEnv 0 args, [], []⟩) : Abs.Ret mo Tryz.prog 39 args r frs :=
  Abs.Ret.of_ir Tryz.func39 rfl (by kernel_rfl) (Nat.le_of_ble_eq_true hn) (by kernel_rfl) (by kernel_rfl) h
abbrev eqActionS.Ret (args : List AV) (r : AV) (frs : Fr) : Prop := Abs.Ret true Tryz.prog 39 args r frs
def eqCond.code : ACode := (.seq (.region false [s 2 (.box (t 0)), s 3 (.box (t 1)), s 4 (.mv (.const (.bool false)))]) (.seq (.seq (.region false [s 5 (.fadr 0 (t 2)), s 6 (.load false 1 (t 5)), s 7 (.fadr 0 (t 3)), s 8 (.load false 1 (t 7)), s 9 (.bin .neq (t 6) (t 8))]) (.cond (t 9) (.seq (.region false [s 4 (.mv (.const (.bool false)))]) .ret) .skip)) (.seq (.seq (.region false [s 10 (.fadr 1 (t 2)), s 11 (.load true 2 (t 10)), s 12 (.fadr 1 (t 3)), s 13 (.load true 2 (t 12)), s 14 (.call 87 [(t 11), (t 13)]), s 15 (.not (t 14))]) (.cond (t 15) (.seq (.region false [s 4 (.mv (.const (.bool false)))]) .ret) .skip)) (.seq (.seq (.region false [s 16 (.fadr 3 (t 2)), s 17 (.load false 1 (t 16)), s 18 (.fadr 3 (t 3)), s 19 (.load false 1 (t 18)), s 20 (.bin .neq (t 17) (t 19))]) (.cond (t 20) (.seq (.region false [s 4 (.mv (.const (.bool false)))]) .ret) .skip)) (.seq (.seq (.region false [s 21 (.fadr 4 (t 2)), s 22 (.load false 1 (t 21)), s 23 (.fadr 4 (t 3)), s 24 (.load false 1 (t 23)), s 25 (.bin .neq (t 22) (t 24))]) (.cond (t 25) (.seq (.region false [s 4 (.mv (.const (.bool false)))]) .ret) .skip)) (.seq (.region false [s 4 (.mv (.const (.bool true)))]) .ret))))))
def eqCond.keep : List Nat := [0, 1, 2, 3, 4]
def eqCond.res : List RRes := [.tmp 4]
theorem eqCond.of {mo : Bool} {args : List AV} {r : AV} {frs : Fr} (hn : Nat.ble args.length Tryz.f66.ntmps = true) (h : aCode (Kn mo Tryz.prog) eqCond.keep 0 eqCond.code (doneK eqCond.res r frs) ⟨argEnv 0 args, [], []⟩) : Abs.Ret mo Tryz.prog 66 args r frs :=
  Abs.Ret.of_ir Tryz.func66 rfl (by kernel_rfl) (Nat.le_of_ble_eq_true hn) (by kernel_rfl) (by kernel_rfl) h
abbrev eqCond.Ret (args : List AV) (r : AV) (frs : Fr) : Prop := Abs.Ret true Tryz.prog 66 args r frs
def eqCondS.code : ACode := (.seq (.region false [s 4 (.mv (.const (.bool false)))]) (.seq (.seq (.region false [s 6 (.mv (t 0)), s 7 (.len false (t 6)), s 8 (.mv (t 1)), s 9 (.len false (t 8)), s 10 (.bin .neq (t 7) (t 9))]) (.cond (t 10) (.seq (.region false [s 4 (.mv (.const (.bool false)))]) .ret) .skip)) (.seq (.seq (.region false [s 5 (.mv (.const (.int .i64 0)))]) (.block 0 (.loop (.seq (.seq (.region false [s 11 (.mv (t 5)), s 12 (.mv (t 0)), s 13 (.len false (t 12)), s 14 (.bin .lss (t 11) (t 13))]) (.cond (t 14) .skip (.exit 0))) (.seq (.block 1 (.seq (.region true [s 17 (.mv (t 0)), s 18 (.mv (t 5)), s 19 (.iadr 5 (t 17) (t 18)), s 20 (.load true 5 (t 19)), s 21 (.mv (t 1)), s 22 (.mv (t 5)), s 23 (.iadr 5 (t 21) (t 22)), s 24 (.load true 5 (t 23)), s 25 (.call 66 [(t 20), (t 24)]), s 26 (.not (t 25))]) (.cond (t 26) (.seq (.region false [s 4 (.mv (.const (.bool false)))]) .ret) .skip))) (.region false [s 15 (.mv (t 5)), s 16 (.bin .add (t 15) (.const (.int .i64 1))), s 5 (.mv (t 16))])))))) (.seq (.region false [s 4 (.mv (.const (.bool true)))]) .ret))))
def eqCondS.keep : List Nat := [0, 1, 4, 5]
def eqCondS.res : List RRes := [.tmp 4]
theorem eqCondS.of {mo : Bool} {args : List AV} {r : AV} {frs : Fr} (hn : Nat.ble args.length Tryz.f38.ntmps = true) (h : aCode (Kn mo Tryz.prog) eqCondS.keep 0 eqCondS.code (doneK eqCondS.res r frs) ⟨argEnv 0 args, [], []⟩) : Abs.Ret mo Tryz.prog 38 args r frs :=
  Abs.Ret.of_ir Tryz.func38 rfl (by kernel_rfl) (Nat.le_of_ble_eq_true hn) (by kernel_rfl) (by kernel_rfl) h
abbrev eqCondS.Ret (args : List AV) (r : AV) (frs : Fr) : Prop := Abs.Ret true Tryz.prog 38 args r frs
def eqPattern.code : ACode := (.seq (.region false [s 2 (.box (t 0)), s 3 (.box (t 1)), s 4 (.mv (.const (.bool false)))]) (.seq (.seq (.region false [s 5 (.fadr 0 (t 2)), s 6 (.load false 1 (t 5)), s 7 (.fadr 0 (t 3)), s 8 (.load false 1 (t 7)), s 9 (.bin .neq (t 6) (t 8))]) (.cond (t 9) (.seq (.region false [s 4 (.mv (.const (.bool false)))]) .ret) .skip)) (.seq (.seq (.region false [s 10 (.fadr 1 (t 2)), s 11 (.load false 1 (t 10)), s 12 (.fadr 1 (t 3)), s 13 (.load false 1 (t 12)), s 14 (.call 100 [(t 11), (t 13)]), s 15 (.not (t 14))]) (.cond (t 15) (.seq (.region false [s 4 (.mv (.const (.bool false)))]) .ret) .skip)) (.seq (.region false [s 4 (.mv (.const (.bool true)))]) .ret))))
def eqPattern.keep : List Nat := [0, 1, 2, 3, 4]
def eqPattern.res : List RRes := [.tmp 4]
theorem eqPattern.of {mo : Bool} {args : List AV} {r : AV} {frs : Fr} (hn : Nat.ble args.length Tryz.f87.ntmps = true) (h : aCode (Kn mo Tryz.prog) eqPattern.keep 0 eqPattern.code (doneK eqPattern.res r frs) ⟨argEnv 0 args, [], []⟩) : Abs.Ret mo Tryz.prog 87 args r frs :=
  Abs.Ret.of_ir Tryz.func87 rfl (by kernel_rfl) (Nat.le_of_ble_eq_true hn) (by kernel_rfl) (by kernel_rfl) h
abbrev eqPattern.Ret (args : List AV) (r : AV) (frs : Fr) : Prop := Abs.Ret true Tryz.prog 87 args r frs
def eqRule.code : ACode := (.seq (.region false [s 2 (.box (t 0)), s 3 (.box (t 1)), s 4 (.mv (.const (.bool false)))]) (.seq (.seq (.region false [s 5 (.fadr 0 (t 2)), s 6 (.load false 1 (t 5)), s 7 (.fadr 0 (t 3)), s 8 (.load false 1 (t 7)), s 9 (.bin .neq (t 6) (t 8))]) (.cond (t 9) (.seq (.region false [s 4 (.mv (.const (.bool false)))]) .ret) .skip)) (.seq (.seq (.region false [s 10 (.fadr 1 (t 2)), s 11 (.load false 1 (t 10)), s 12 (.fadr 1 (t 3)), s 13 (.load false 1 (t 12)), s 14 (.bin .neq (t 11) (t 13))]) (.cond (t 14) (.seq (.region false [s 4 (.mv (.const (.bool false)))]) .ret) .skip)) (.seq (.seq (.region false [s 15 (.fadr 2 (t 2)), s 16 (.load false 1 (t 15)), s 17 (.fadr 2 (t 3)), s 18 (.load false 1 (t 17)), s 19 (.call 38 [(t 16), (t 18)]), s 20 (.not (t 19))]) (.cond (t 20) (.seq (.region false [s 4 (.mv (.const (.bool false)))]) .ret) .skip)) (.seq (.seq (.region false [s 21 (.fadr 3 (t 2)), s 22 (.load false 1 (t 21)), s 23 (.fadr 3 (t 3)), s 24 (.load false 1 (t 23)), s 25 (.call 39 [(t 22), (t 24)]), s 26 (.not (t 25))]) (.cond (t 26) (.seq (.region false [s 4 (.mv (.const (.bool false)))]) .ret) .skip)) (.seq (.region false [s 4 (.mv (.const (.bool true)))]) .ret))))))
def eqRule.keep : List Nat := [0, 1, 2, 3, 4]
def eqRule.res : List RRes := [.tmp 4]
theorem eqRule.of {mo : Bool} {args : List AV} {r : AV} {frs : Fr} (hn : Nat.ble args.length Tryz.f10.ntmps = true) (h : aCode (Kn mo Tryz.prog) eqRule.keep 0 eqRule.code (doneK eqRule.res r frs) ⟨argEnv 0 args, [], []⟩) : Abs.Ret mo Tryz.prog 10 args r frs :=
  Abs.Ret.of_ir Tryz.func10 rfl (by kernel_rfl) (Nat.le_of_ble_eq_true hn) (by kernel_rfl) (by kernel_rfl) h
abbrev eqRule.Ret (args : List AV) (r : AV) (frs : Fr) : Prop := Abs.Ret true Tryz.prog 10 args r frs
def eqStringS.code : ACode := (.seq (.region false [s 4 (.mv (.const (.bool false)))]) (.seq (.seq (.region false [s 6 (.mv (t 0)), s 7 (.len false (t 6)), s 8 (.mv (t 1)), s 9 (.len false (t 8)), s 10 (.bin .neq (t 7) (t 9))]) (.cond (t 10) (.seq (.region false [s 4 (.mv (.const (.bool false)))]) .ret) .skip)) (.seq (.seq (.region false [s 5 (.mv (.const (.int .i64 0)))]) (.block 0 (.loop (.seq (.seq (.region false [s 11 (.mv (t 5)), s 12 (.mv (t 0)), s 13 (.len false (t 12)), s 14 (.bin .lss (t 11) (t 13))]) (.cond (t 14) .skip (.exit 0))) (.seq (.block 1 (.seq (.region true [s 17 (.mv (t 0)), s 18 (.mv (t 5)), s 19 (.iadr 1 (t 17) (t 18)), s 20 (.load false 1 (t 19)), s 21 (.mv (t 1)), s 22 (.mv (t 5)), s 23 (.iadr 1 (t 21) (t 22)), s 24 (.load false 1 (t 23)), s 25 (.bin .neq (t 20) (t 24))]) (.cond (t 25) (.seq (.region false [s 4 (.mv (.const (.bool false)))]) .ret) .skip))) (.region false [s 15 (.mv (t 5)), s 16 (.bin .add (t 15) (.const (.int .i64 1))), s 5 (.mv (t 16))])))))) (.seq (.region false [s 4 (.mv (.const (.bool true)))]) .ret))))
def eqStringS.keep : List Nat := [0, 1, 4, 5]
def eqStringS.res : List RRes := [.tmp 4]
theorem eqStringS.of {mo : Bool} {args : List AV} {r : AV} {frs : Fr} (hn : Nat.ble args.length Tryz.f100.ntmps = true) (h : aCode (Kn mo Tryz.prog) eqStringS.keep 0 eqStringS.code (doneK eqStringS.res r frs) ⟨argEnv 0 args, [], []⟩) : Abs.Ret mo Tryz.prog 100 args r frs :=
  Abs.Ret.of_ir Tryz.func100 rfl (by kernel_rfl) (Nat.le_of_ble_eq_true hn) (by kernel_rfl) (by kernel_rfl) h
abbrev eqStringS.Ret (args : List AV) (r : AV) (frs : Fr) : Prop := Abs.Ret true Tryz.prog 100 args r frs
def szAction.code : ACode := (.seq (.region false [s 2 (.box (t 0)), s 4 (.mv (.const (.int .i64 0)))]) (.seq (.region false [s 5 (.fadr 1 (t 2)), s 6 (.load true 2 (t 5)), s 7 (.mv (t 1)), s 8 (.call 70 [(t 6), (t 7)]), s 1 (.mv (t 8))]) (.seq (.seq (.region false [s 9 (.mv (t 1)), s 10 (.bin .lss (t 9) (.const (.int .i64 0)))]) (.cond (t 10) (.seq (.region false [s 4 (.mv (.const (.int .i64 (-1))))]) .ret) .skip)) (.seq (.region false [s 11 (.mv (t 1)), s 4 (.mv (t 11))]) .ret))))
def szAction.keep : List Nat := [0, 1, 2, 4]
def szAction.res : List RRes := [.tmp 4]
theorem szAction.of {mo : Bool} {args : List AV} {r : AV} {frs : Fr} (hn : Nat.ble args.length Tryz.f47.ntmps = true) (h : aCode (Kn mo Tryz.prog) szAction.keep 0 szAction.code (doneK szAction.res r frs) ⟨argEnv 0 args, [], []⟩) : Abs.Ret mo Tryz.prog 47 args r frs :=
  Abs.Ret.of_ir Tryz.func47 rfl (by kernel_rfl) (Nat.le_of_ble_eq_true hn) (by kernel_rfl) (by kernel_rfl) h
abbrev szAction.Ret (args : List AV) (r : AV) (frs : Fr) : Prop := Abs.Ret true Tryz.prog 47 args r frs
def szActionS.code : ACode := (.seq (.region false [s 4 (.mv (.const (.int .i64 0)))]) (.seq (.region false [s 6 (.mv (t 1)), s 7 (.mv (t 0)), s 8 (.len false (t 7)), s 9 (.bin .sub (t 6) (t 8)), s 1 (.mv (t 9))]) (.seq (.seq (.region false [s 10 (.mv (t 1)), s 11 (.bin .lss (t 10) (.const (.int .i64 0)))]) (.cond (t 11) (.seq (.region false [s 4 (.mv (.const (.int .i64 (-1))))]) .ret) .skip)) (.seq (.seq (.region false [s 5 (.mv (.const (.int .i64 0)))]) (.block 0 (.loop (.seq (.seq (.region false [s 12 (.mv (t 5)), s 13 (.mv (t 0)), s 14 (.len false (t 13)), s 15 (.bin .lss (t 12) (t 14))]) (.cond (t 15) .skip (.exit 0))) (.seq (.block 1 (.seq (.region false [s 18 (.mv (t 0)), s 19 (.mv (t 5)), s 20 (.iadr 3 (t 18) (t 19)), s 21 (.load true 3 (t 20)), s 22 (.mv (t 1)), s 23 (.call 47 [(t 21), (t 22)]), s 1 (.mv (t 23))]) (.seq (.region false [s 24 (.mv (t 1)), s 25 (.bin .lss (t 24) (.const (.int .i64 0)))]) (.cond (t 25) (.seq (.region false [s 4 (.mv (.const (.int .i64 (-1))))]) .ret) .skip)))) (.region false [s 16 (.mv (t 5)), s 17 (.bin .add (t 16) (.const (.int .i64 1))), s 5 (.mv (t 17))])))))) (.seq (.region false [s 26 (.mv (t 1)), s 4 (.mv (t 26))]) .ret)))))
def szActionS.keep : List Nat := [0, 1, 4, 5]
def szActionS.res : List RRes := [.tmp 4]
theorem szActionS.of {mo : Bool} {args : List AV} {r : AV} {frs : Fr} (hn : Nat.ble args.length Tryz.f19.ntmps = true) (h : aCode (Kn mo Tryz.prog) szActionS.keep 0 szActionS.code (doneK szActionS.res r frs) ⟨argEnv 0 args, [], []⟩) : Abs.Ret mo Tryz.prog 19 args r frs :=
  Abs.Ret.of_ir Tryz.func19 rfl (by kernel_rfl) (Nat.le_of_ble_eq_true hn) (by kernel_rfl) (by kernel_rfl) h
abbrev szActionS.Ret (args : List AV) (r : AV) (frs : Fr) : Prop := Abs.Ret true Tryz.prog 19 args r frs
def szCond.code : ACode := (.seq (.region false [s 2 (.box (t 0)), s 4 (.mv (.const (.int .i64 0)))]) (.seq (.region false [s 5 (.fadr 1 (t 2)), s 6 (.load true 2 (t 5)), s 7 (.mv (t 1)), s 8 (.call 70 [(t 6), (t 7)]), s 1 (.mv (t 8))]) (.seq (.seq (.region false [s 9 (.mv (t 1)), s 10 (.bin .lss (t 9) (.const (.int .i64 0)))]) (.cond (t 10) (.seq (.region false [s 4 (.mv (.const (.int .i64 (-1))))]) .ret) .skip)) (.seq (.region false [s 11 (.mv (t 1)), s 12 (.fadr 3 (t 2)), s 13 (.load false 1 (t 12)), s 14 (.len true (t 13)), s 15 (.bin .sub (t 11) (t 14)), s 1 (.mv (t 15))]) (.seq (.seq (.region false [s 16 (.mv (t 1)), s 17 (.bin .lss (t 16) (.const (.int .i64 0)))]) (.cond (t 17) (.seq (.region false [s 4 (.mv (.const (.int .i64 (-1))))]) .ret) .skip)) (.seq (.region false [s 18 (.mv (t 1)), s 19 (.fadr 4 (t 2)), s 20 (.load false 1 (t 19)), s 21 (.len true (t 20)), s 22 (.bin .sub (t 18) (t 21)), s 1 (.mv (t 22))]) (.seq (.seq (.region false [s 23 (.mv (t 1)), s 24 (.bin .lss (t 23) (.const (.int .i64 0)))]) (.cond (t 24) (.seq (.region false [s 4 (.mv (.const (.int .i64 (-1))))]) .ret) .skip)) (.seq (.region false [s 25 (.mv (t 1)), s 4 (.mv (t 25))]) .ret))))))))
def szCond.keep : List Nat := [0, 1, 2, 4]
def szCond.res : List RRes := [.tmp 4]
theorem szCond.of {mo : Bool} {args : List AV} {r : AV} {frs : Fr} (hn : Nat.ble args.length Tryz.f46.ntmps = true) (h : aCode (Kn mo Tryz.prog) szCond.keep 0 szCond.code (doneK szCond.res r frs) ⟨argEnv 0 args, [], []⟩) : Abs.Ret mo Tryz.prog 46 args r frs :=
  Abs.Ret.of_ir Tryz.func46 rfl (by kernel_rfl) (Nat.le_of_ble_eq_true hn) (by kernel_rfl) (by kernel_rfl) h
abbrev szCond.Ret (args : List AV) (r : AV) (frs : Fr) : Prop := Abs.Ret true Tryz.prog 46 args r frs
def szCondS.code : ACode := (.seq (.region false [s 4 (.mv (.const (.int .i64 0)))]) (.seq (.region false [s 6 (.mv (t 1)), s 7 (.mv (t 0)), s 8 (.len false (t 7)), s 9 (.bin .sub (t 6) (t 8)), s 1 (.mv (t 9))]) (.seq (.seq (.region false [s 10 (.mv (t 1)), s 11 (.bin .lss (t 10) (.const (.int .i64 0)))]) (.cond (t 11) (.seq (.region false [s 4 (.mv (.const (.int .i64 (-1))))]) .ret) .skip)) (.seq (.seq (.region false [s 5 (.mv (.const (.int .i64 0)))]) (.block 0 (.loop (.seq (.seq (.region false [s 12 (.mv (t 5)), s 13 (.mv (t 0)), s 14 (.len false (t 13)), s 15 (.bin .lss (t 12) (t 14))]) (.cond (t 15) .skip (.exit 0))) (.seq (.block 1 (.seq (.region false [s 18 (.mv (t 0)), s 19 (.mv (t 5)), s 20 (.iadr 5 (t 18) (t 19)), s 21 (.load true 5 (t 20)), s 22 (.mv (t 1)), s 23 (.call 46 [(t 21), (t 22)]), s 1 (.mv (t 23))]) (.seq (.region false [s 24 (.mv (t 1)), s 25 (.bin .lss (t 24) (.const (.int .i64 0)))]) (.cond (t 25) (.seq (.region false [s 4 (.mv (.const (.int .i64 (-1))))]) .ret) .skip)))) (.region false [s 16 (.mv (t 5)), s 17 (.bin .add (t 16) (.const (.int .i64 1))), s 5 (.mv (t 17))])))))) (.seq (.region false [s 26 (.mv (t 1)), s 4 (.mv (t 26))]) .ret)))))
def szCondS.keep : List Nat := [0, 1, 4, 5]
def szCondS.res : List RRes := [.tmp 4]
theorem szCondS.of {mo : Bool} {args : List AV} {r : AV} {frs : Fr} (hn : Nat.ble args.length Tryz.f18.ntmps = true) (h : aCode (Kn mo Tryz.prog) szCondS.keep 0 szCondS.code (doneK szCondS.res r frs) ⟨argEnv 0 args, [], []⟩) : Abs.Ret mo Tryz.prog 18 args r frs :=
  Abs.Ret.of_ir Tryz.func18 rfl (by kernel_rfl) (Nat.le_of_ble_eq_true hn) (by kernel_rfl) (by kernel_rfl) h
abbrev szCondS.Ret (args : List AV) (r : AV) (frs : Fr) : Prop := Abs.Ret true Tryz.prog 18 args r frs
def szPattern.code : ACode := (.seq (.region false [s 2 (.box (t 0)), s 4 (.mv (.const (.int .i64 0)))]) (.seq (.region false [s 5 (.mv (t 1)), s 6 (.fadr 0 (t 2)), s 7 (.load false 1 (t 6)), s 8 (.len true (t 7)), s 9 (.bin .sub (t 5) (t 8)), s 1 (.mv (t 9))]) (.seq (.seq (.region false [s 10 (.mv (t 1)), s 11 (.bin .lss (t 10) (.const (.int .i64 0)))]) (.cond (t 11) (.seq (.region false [s 4 (.mv (.const (.int .i64 (-1))))]) .ret) .skip)) (.seq (.region false [s 12 (.fadr 1 (t 2)), s 13 (.load false 1 (t 12)), s 14 (.mv (t 1)), s 15 (.call 88 [(t 13), (t 14)]), s 1 (.mv (t 15))]) (.seq (.seq (.region false [s 16 (.mv (t 1)), s 17 (.bin .lss (t 16) (.const (.int .i64 0)))]) (.cond (t 17) (.seq (.region false [s 4 (.mv (.const (.int .i64 (-1))))]) .ret) .skip)) (.seq (.region false [s 18 (.mv (t 1)), s 4 (.mv (t 18))]) .ret))))))
def szPattern.keep : List Nat := [0, 1, 2, 4]
def szPattern.res : List RRes := [.tmp 4]
theorem szPattern.of {mo : Bool} {args : List AV} {r : AV} {frs : Fr} (hn : Nat.ble args.length Tryz.f70.ntmps = true) (h : aCode (Kn mo Tryz.prog) szPattern.keep 0 szPattern.code (doneK szPattern.res r frs) ⟨argEnv 0 args, [], []⟩) : Abs.Ret mo Tryz.prog 70 args r frs :=
  Abs.Ret.of_ir Tryz.func70 rfl (by kernel_rfl) (Nat.le_of_ble_eq_true hn) (by kernel_rfl) (by kernel_rfl) h
abbrev szPattern.Ret (args : List AV) (r : AV) (frs : Fr) : Prop := Abs.Ret true Tryz.prog 70 args r frs
def szRule.code : ACode := (.seq (.region false [s 2 (.box (t 0)), s 4 (.mv (.const (.int .i64 0)))]) (.seq (.region false [s 5 (.mv (t 1)), s 6 (.fadr 0 (t 2)), s 7 (.load false 1 (t 6)), s 8 (.len true (t 7)), s 9 (.bin .sub (t 5) (t 8)), s 1 (.mv (t 9))]) (.seq (.seq (.region false [s 10 (.mv (t 1)), s 11 (.bin .lss (t 10) (.const (.int .i64 0)))]) (.cond (t 11) (.seq (.region false [s 4 (.mv (.const (.int .i64 (-1))))]) .ret) .skip)) (.seq (.region false [s 12 (.fadr 2 (t 2)), s 13 (.load false 1 (t 12)), s 14 (.mv (t 1)), s 15 (.call 18 [(t 13), (t 14)]), s 1 (.mv (t 15))]) (.seq (.seq (.region false [s 16 (.mv (t 1)), s 17 (.bin .lss (t 16) (.const (.int .i64 0)))]) (.cond (t 17) (.seq (.region false [s 4 (.mv (.const (.int .i64 (-1))))]) .ret) .skip)) (.seq (.region false [s 18 (.fadr 3 (t 2)), s 19 (.load false 1 (t 18)), s 20 (.mv (t 1)), s 21 (.call 19 [(t 19), (t 20)]), s 1 (.mv (t 21))]) (.seq (.seq (.region false [s 22 (.mv (t 1)), s 23 (.bin .lss (t 22) (.const (.int .i64 0)))]) (.cond (t 23) (.seq (.region false [s 4 (.mv (.const (.int .i64 (-1))))]) .ret) .skip)) (.seq (.region false [s 24 (.mv (t 1)), s 4 (.mv (t 24))]) .ret))))))))
def szRule.keep : List Nat := [0, 1, 2, 4]
def szRule.res : List RRes := [.tmp 4]
theorem szRule.of {mo : Bool} {args : List AV} {r : AV} {frs : Fr} (hn : Nat.ble args.length Tryz.f6.ntmps = true) (h : aCode (Kn mo Tryz.prog) szRule.keep 0 szRule.code (doneK szRule.res r frs) ⟨argEnv 0 args, [], []⟩) : Abs.Ret mo Tryz.prog 6 args r frs :=
  Abs.Ret.of_ir Tryz.func6 rfl (by kernel_rfl) (Nat.le_of_ble_eq_true hn) (by kernel_rfl) (by kernel_rfl) h
abbrev szRule.Ret (args : List AV) (r : AV) (frs : Fr) : Prop := Abs.Ret true Tryz.prog 6 args r frs
def szStringS.code : ACode := (.seq (.region false [s 4 (.mv (.const (.int .i64 0)))]) (.seq (.region false [s 6 (.mv (t 1)), s 7 (.mv (t 0)), s 8 (.len false (t 7)), s 9 (.bin .sub (t 6) (t 8)), s 1 (.mv (t 9))]) (.seq (.seq (.region false [s 10 (.mv (t 1)), s 11 (.bin .lss (t 10) (.const (.int .i64 0)))]) (.cond (t 11) (.seq (.region false [s 4 (.mv (.const (.int .i64 (-1))))]) .ret) .skip)) (.seq (.seq (.region false [s 5 (.mv (.const (.int .i64 0)))]) (.block 0 (.loop (.seq (.seq (.region false [s 12 (.mv (t 5)), s 13 (.mv (t 0)), s 14 (.len false (t 13)), s 15 (.bin .lss (t 12) (t 14))]) (.cond (t 15) .skip (.exit 0))) (.seq (.block 1 (.seq (.region false [s 18 (.mv (t 1)), s 19 (.mv (t 0)), s 20 (.mv (t 5)), s 21 (.iadr 1 (t 19) (t 20)), s 22 (.load false 1 (t 21)), s 23 (.len true (t 22)), s 24 (.bin .sub (t 18) (t 23)), s 1 (.mv (t 24))]) (.seq (.region false [s 25 (.mv (t 1)), s 26 (.bin .lss (t 25) (.const (.int .i64 0)))]) (.cond (t 26) (.seq (.region false [s 4 (.mv (.const (.int .i64 (-1))))]) .ret) .skip)))) (.region false [s 16 (.mv (t 5)), s 17 (.bin .add (t 16) (.const (.int .i64 1))), s 5 (.mv (t 17))])))))) (.seq (.region false [s 27 (.mv (t 1)), s 4 (.mv (t 27))]) .ret)))))
def szStringS.keep : List Nat := [0, 1, 4, 5]
def szStringS.res : List RRes := [.tmp 4]
theorem szStringS.of {mo : Bool} {args : List AV} {r : AV} {frs : Fr} (hn : Nat.ble args.length Tryz.f88.ntmps = true) (h : aCode (Kn mo Tryz.prog) szStringS.keep 0 szStringS.code (doneK szStringS.res r frs) ⟨argEnv 0 args, [], []⟩) : Abs.Ret mo Tryz.prog 88 args r frs :=
  Abs.Ret.of_ir Tryz.func88 rfl (by kernel_rfl) (Nat.le_of_ble_eq_true hn) (by kernel_rfl) (by kernel_rfl) h
abbrev szStringS.Ret (args : List AV) (r : AV) (frs : Fr) : Prop := Abs.Ret true Tryz.prog 88 args r frs
def toAction.code : ACode := (.seq (.region false [s 1 (.box (t 0)), s 2 (.alloc [(.int .i64 (.ofNat 0)), (.string (.mk (.mk []))), (.slice none 0 0)])]) (.seq (.region false [s 3 (.alloc [(.int .i64 (.ofNat 0)), (.string (.mk (.mk []))), (.slice none 0 0)])]) (.seq (.region false [s 4 (.fadr 0 (t 1)), s 5 (.load false 1 (t 4)), s 6 (.fadr 0 (t 3)), ⟨none, none, (.store 1 (t 6) (t 5))⟩]) (.seq (.region false [s 7 (.fadr 1 (t 1)), s 8 (.load true 2 (t 7)), s 9 (.call 71 [(t 8)]), s 10 (.fadr 1 (t 3)), ⟨none, none, (.store 2 (t 10) (t 9))⟩]) (.seq (.region false [s 11 (.load true 3 (t 3)), ⟨none, none, (.store 3 (t 2) (t 11))⟩]) .ret)))))
def toAction.keep : List Nat := [0, 1, 2, 3]
def toAction.res : List RRes := [.cell 2 true 3]
theorem toAction.of {mo : Bool} {args : List AV} {r : AV} {frs : Fr} (hn : Nat.ble args.length Tryz.f54.ntmps = true) (h : aCode (Kn mo Tryz.prog) toAction.keep 0 toAction.code (doneK toAction.res r frs) ⟨argEnv 0 args, [], []⟩) : Abs.Ret mo Tryz.prog 54 args r frs :=
  Abs.Ret.of_ir Tryz.func54 rfl (by kernel_rfl) (Nat.le_of_ble_eq_true hn) (by kernel_rfl) (by kernel_rfl) h
abbrev toAction.Ret (args : List AV) (r : AV) (frs : Fr) : Prop := Abs.Ret true Tryz.prog 54 args r frs
def toActionS.code : ACode := (.seq (.region false [s 2 (.mv (.const (.slice none 0 0)))]) (.seq (.region false [s 5 (.mv (t 0)), s 6 (.len false (t 5)), s 7 (.make 58 [(.int .i64 (.ofNat 0)), (.string (.mk (.mk []))), (.slice none 0 0)] 3 48 (t 6)), s 3 (.mv (t 7))]) (.seq (.seq (.region false [s 4 (.mv (.const (.int .i64 0)))]) (.block 0 (.loop (.seq (.seq (.region false [s 8 (.mv (t 4)), s 9 (.mv (t 0)), s 10 (.len false (t 9)), s 11 (.bin .lss (t 8) (t 10))]) (.cond (t 11) .skip (.exit 0))) (.seq (.block 1 (.region false [s 14 (.mv (t 3)), s 15 (.mv (t 4)), s 16 (.mv (t 0)), s 17 (.mv (t 4)), s 18 (.iadr 3 (t 16) (t 17)), s 19 (.load true 3 (t 18)), s 20 (.call 54 [(t 19)]), s 21 (.iadr 3 (t 14) (t 15)), ⟨none, none, (.store 3 (t 21) (t 20))⟩])) (.region false [s 12 (.mv (t 4)), s 13 (.bin .add (t 12) (.const (.int .i64 1))), s 4 (.mv (t 13))])))))) (.seq (.region false [s 22 (.mv (t 3)), s 2 (.mv (t 22))]) .ret))))
def toActionS.keep : List Nat := [0, 2, 3, 4]
def toActionS.res : List RRes := [.tmp 2]
theorem toActionS.of {mo : Bool} {args : List AV} {r : AV} {frs : Fr} (hn : Nat.ble args.length Tryz.f32.ntmps = true) (h : aCode (Kn mo Tryz.prog) toActionS.keep 0 toActionS.code (doneK toActionS.res r frs) ⟨argEnv 0 args, [], []⟩) : Abs.Ret mo Tryz.prog 32 args r frs :=
  Abs.Ret.of_ir Tryz.func32 rfl (by kernel_rfl) (Nat.le_of_ble_eq_true hn) (by kernel_rfl) (by kernel_rfl) h
abbrev toActionS.Ret (args : List AV) (r : AV) (frs : Fr) : Prop := Abs.Ret true Tryz.prog 32 args r frs
def toCond.code : ACode := (.seq (.region false [s 1 (.box (t 0)), s 2 (.alloc [(.int .i64 (.ofNat 0)), (.string (.mk (.mk []))), (.slice none 0 0), (.string (.mk (.mk []))), (.string (.mk (.mk [])))])]) (.seq (.region false [s 3 (.alloc [(.int .i64 (.ofNat 0)), (.string (.mk (.mk []))), (.slice none 0 0), (.string (.mk (.mk []))), (.string (.mk (.mk [])))])]) (.seq (.region false [s 4 (.fadr 0 (t 1)), s 5 (.load false 1 (t 4)), s 6 (.fadr 0 (t 3)), ⟨none, none, (.store 1 (t 6) (t 5))⟩]) (.seq (.region false [s 7 (.fadr 1 (t 1)), s 8 (.load true 2 (t 7)), s 9 (.call 71 [(t 8)]), s 10 (.fadr 1 (t 3)), ⟨none, none, (.store 2 (t 10) (t 9))⟩]) (.seq (.region false [s 11 (.fadr 3 (t 1)), s 12 (.load false 1 (t 11)), s 13 (.fadr 3 (t 3)), ⟨none, none, (.store 1 (t 13) (t 12))⟩]) (.seq (.region false [s 14 (.fadr 4 (t 1)), s 15 (.load false 1 (t 14)), s 16 (.fadr 4 (t 3)), ⟨none, none, (.store 1 (t 16) (t 15))⟩]) (.seq (.region false [s 17 (.load true 5 (t 3)), ⟨none, none, (.store 5 (t 2) (t 17))⟩]) .ret)))))))
def toCond.keep : List Nat := [0, 1, 2, 3]
def toCond.res : List RRes := [.cell 2 true 5]
theorem toCond.of {mo : Bool} {args : List AV} {r : AV} {frs : Fr} (hn : Nat.ble args.length Tryz.f53.ntmps = true) (h : aCode (Kn mo Tryz.prog) toCond.keep 0 toCond.code (doneK toCond.res r frs) ⟨argEnv 0 args, [], []⟩) : Abs.Ret mo Tryz.prog 53 args r frs :=
  Abs.Ret.of_ir Tryz.func53 rfl (by kernel_rfl) (Nat.le_of_ble_eq_true hn) (by kernel_rfl) (by kernel_rfl) h
abbrev toCond.Ret (args : List AV) (r : AV) (frs : Fr) : Prop := Abs.Ret true Tryz.prog 53 args r frs
def toCondS.code : ACode := (.seq (.region false [s 2 (.mv (.const (.slice none 0 0)))]) (.seq (.region false [s 5 (.mv (t 0)), s 6 (.len false (t 5)), s 7 (.make 51 [(.int .i64 (.ofNat 0)), (.string (.mk (.mk []))), (.slice none 0 0), (.string (.mk (.mk []))), (.string (.mk (.mk [])))] 5 80 (t 6)), s 3 (.mv (t 7))]) (.seq (.seq (.region false [s 4 (.mv (.const (.int .i64 0)))]) (.block 0 (.loop (.seq (.seq (.region false [s 8 (.mv (t 4)), s 9 (.mv (t 0)), s 10 (.len false (t 9)), s 11 (.bin .lss (t 8) (t 10))]) (.cond (t 11) .skip (.exit 0))) (.seq (.block 1 (.region false [s 14 (.mv (t 3)), s 15 (.mv (t 4)), s 16 (.mv (t 0)), s 17 (.mv (t 4)), s 18 (.iadr 5 (t 16) (t 17)), s 19 (.load true 5 (t 18)), s 20 (.call 53 [(t 19)]), s 21 (.iadr 5 (t 14) (t 15)), ⟨none, none, (.store 5 (t 21) (t 20))⟩])) (.region false [s 12 (.mv (t 4)), s 13 (.bin .add (t 12) (.const (.int .i64 1))), s 4 (.mv (t 13))])))))) (.seq (.region false [s 22 (.mv (t 3)), s 2 (.mv (t 22))]) .ret))))
def toCondS.keep : List Nat := [0, 2, 3, 4]
def toCondS.res : List RRes := [.tmp 2]
theorem toCondS.of {mo : Bool} {args : List AV} {r : AV} {frs : Fr} (hn : Nat.ble args.length Tryz.f31.ntmps = true) (h : aCode (Kn mo Tryz.prog) toCondS.keep 0 toCondS.code (doneK toCondS.res r frs) ⟨argEnv 0 args, [], []⟩) : Abs.Ret mo Tryz.prog 31 args r frs :=
  Abs.Ret.of_ir Tryz.func31 rfl (by kernel_rfl) (Nat.le_of_ble_eq_true hn) (by kernel_rfl) (by kernel_rfl) h
abbrev toCondS.Ret (args : List AV) (r : AV) (frs : Fr) : Prop := Abs.Ret true Tryz.prog 31 args r frs
def toPattern.code : ACode := (.seq (.region false [s 1 (.box (t 0)), s 2 (.alloc [(.string (.mk (.mk []))), (.slice none 0 0)])]) (.seq (.region false [s 3 (.alloc [(.string (.mk (.mk []))), (.slice none 0 0)])]) (.seq (.region false [s 4 (.fadr 0 (t 1)), s 5 (.load false 1 (t 4)), s 6 (.fadr 0 (t 3)), ⟨none, none, (.store 1 (t 6) (t 5))⟩]) (.seq (.region false [s 7 (.fadr 1 (t 1)), s 8 (.load false 1 (t 7)), s 9 (.call 89 [(t 8)]), s 10 (.fadr 1 (t 3)), ⟨none, none, (.store 1 (t 10) (t 9))⟩]) (.seq (.region false [s 11 (.load true 2 (t 3)), ⟨none, none, (.store 2 (t 2) (t 11))⟩]) .ret)))))
def toPattern.keep : List Nat := [0, 1, 2, 3]
def toPattern.res : List RRes := [.cell 2 true 2]
theorem toPattern.of {mo : Bool} {args : List AV} {r : AV} {frs : Fr} (hn : Nat.ble args.length Tryz.f71.ntmps = true) (h : aCode (Kn mo Tryz.prog) toPattern.keep 0 toPattern.code (doneK toPattern.res r frs) ⟨argEnv 0 args, [], []⟩) : Abs.Ret mo Tryz.prog 71 args r frs :=
  Abs.Ret.of_ir Tryz.func71 rfl (by kernel_rfl) (Nat.le_of_ble_eq_true hn) (by kernel_rfl) (by kernel_rfl) h
abbrev toPattern.Ret (args : List AV) (r : AV) (frs : Fr) : Prop := Abs.Ret true Tryz.prog 71 args r frs
def toRule.code : ACode := (.seq (.region false [s 1 (.box (t 0)), s 2 (.alloc [(.string (.mk (.mk []))), (.int .i64 (.ofNat 0)), (.slice none 0 0), (.slice none 0 0)])]) (.seq (.region false [s 3 (.alloc [(.string (.mk (.mk []))), (.int .i64 (.ofNat 0)), (.slice none 0 0), (.slice none 0 0)])]) (.seq (.region false [s 4 (.fadr 0 (t 1)), s 5 (.load false 1 (t 4)), s 6 (.fadr 0 (t 3)), ⟨none, none, (.store 1 (t 6) (t 5))⟩]) (.seq (.region false [s 7 (.fadr 1 (t 1)), s 8 (.load false 1 (t 7)), s 9 (.fadr 1 (t 3)), ⟨none, none, (.store 1 (t 9) (t 8))⟩]) (.seq (.region false [s 10 (.fadr 2 (t 1)), s 11 (.load false 1 (t 10)), s 12 (.call 31 [(t 11)]), s 13 (.fadr 2 (t 3)), ⟨none, none, (.store 1 (t 13) (t 12))⟩]) (.seq (.region false [s 14 (.fadr 3 (t 1)), s 15 (.load false 1 (t 14)), s 16 (.call 32 [(t 15)]), s 17 (.fadr 3 (t 3)), ⟨none, none, (.store 1 (t 17) (t 16))⟩]) (.seq (.region false [s 18 (.load true 4 (t 3)), ⟨none, none, (.store 4 (t 2) (t 18))⟩]) .ret)))))))
def toRule.keep : List Nat := [0, 1, 2, 3]
def toRule.res : List RRes := [.cell 2 true 4]
theorem toRule.of {mo : Bool} {args : List AV} {r : AV} {frs : Fr} (hn : Nat.ble args.length Tryz.f8.ntmps = true) (h : aCode (Kn mo Tryz.prog) toRule.keep 0 toRule.code (doneK toRule.res r frs) ⟨argEnv 0 args, [], []⟩) : Abs.Ret mo Tryz.prog 8 args r frs :=
  Abs.Ret.of_ir Tryz.func8 rfl (by kernel_rfl) (Nat.le_of_ble_eq_true hn) (by kernel_rfl) (by kernel_rfl) h
abbrev toRule.Own (args : List AV) (x : Tr) : Prop := Abs.Own true Tryz.prog 8 args x
abbrev toRule.Ret (args : List AV) (r : AV) (frs : Fr) : Prop := Abs.Ret true Tryz.prog 8 args r frs
def toStringS.code : ACode := (.seq (.region false [s 2 (.mv (.const (.slice none 0 0)))]) (.seq (.region false [s 5 (.mv (t 0)), s 6 (.len false (t 5)), s 7 (.make 9 [(.string (.mk (.mk [])))] 1 16 (t 6)), s 3 (.mv (t 7))]) (.seq (.seq (.region false [s 4 (.mv (.const (.int .i64 0)))]) (.block 0 (.loop (.seq (.seq (.region false [s 8 (.mv (t 4)), s 9 (.mv (t 0)), s 10 (.len false (t 9)), s 11 (.bin .lss (t 8) (t 10))]) (.cond (t 11) .skip (.exit 0))) (.seq (.block 1 (.region false [s 14 (.mv (t 3)), s 15 (.mv (t 4)), s 16 (.mv (t 0)), s 17 (.mv (t 4)), s 18 (.iadr 1 (t 16) (t 17)), s 19 (.load false 1 (t 18)), s 20 (.iadr 1 (t 14) (t 15)), ⟨none, none, (.store 1 (t 20) (t 19))⟩])) (.region false [s 12 (.mv (t 4)), s 13 (.bin .add (t 12) (.const (.int .i64 1))), s 4 (.mv (t 13))])))))) (.seq (.region false [s 21 (.mv (t 3)), s 2 (.mv (t 21))]) .ret))))
def toStringS.keep : List Nat := [0, 2, 3, 4]
def toStringS.res : List RRes := [.tmp 2]
theorem toStringS.of {mo : Bool} {args : List AV} {r : AV} {frs : Fr} (hn : Nat.ble args.length Tryz.f89.ntmps = true) (h : aCode (Kn mo Tryz.prog) toStringS.keep 0 toStringS.code (doneK toStringS.res r frs) ⟨argEnv 0 args, [], []⟩) : Abs.Ret mo Tryz.prog 89 args r frs :=
  Abs.Ret.of_ir Tryz.func89 rfl (by kernel_rfl) (Nat.le_of_ble_eq_true hn) (by kernel_rfl) (by kernel_rfl) h
abbrev toStringS.Ret (args : List AV) (r : AV) (frs : Fr) : Prop := Abs.Ret true Tryz.prog 89 args r frs
end Go.Proofs.YtimcfgokocihnaaGreat
namespace Go.Proofs.YtimcfgokocihnaaGreat
open Abs
def part (z : List AV) (xs : List (List AV)) (i : Nat) : List AV := (xs.take i).flatten ++ (List.replicate (xs.length - i) z).flatten
theorem setAt_mid {α : Type} : ∀ (x a b c : List α), b.length = x.length → setAt (a ++ b ++ c) a.length x = a ++ x ++ c
  | [], a, b, c, h => by cases b with
    | nil => rfl
    | cons _ _ => simp at h
  | y :: x, a, b, c, h => by
    cases b with
    | nil => simp at h
    | cons b0 b =>
      have h1 : (a ++ b0 :: b ++ c).set a.length y = (a ++ [y]) ++ b ++ c := by simp
      have h2 : a.length + 1 = (a ++ [y]).length := by simp
      rw [setAt, h1, h2, setAt_mid x (a ++ [y]) b c (by simpa using h)]
      simp
theorem part_set {z : List AV} {xs : List (List AV)} {i sz : Nat} (hz : z.length = sz) (hx : ∀ x ∈ xs, x.length = sz) {x : List AV} (hi : xs[i]? = some x) : setAt (part z xs i) (i * sz) x = part z xs (i + 1) := by
  have hlt := getElem?_lt hi
  have h1 : (xs.take i).flatten.length = i * sz := by rw [length_flatten' sz _ (fun x h => hx x (List.mem_of_mem_take h)), List.length_take]; congr 1; omega
  obtain ⟨k, hk⟩ : ∃ k, xs.length - i = k + 1 := ⟨xs.length - i - 1, by omega⟩
  have hk2 : xs.length - (i + 1) = k := by omega
  have h2 : part z xs i = (xs.take i).flatten ++ z ++ (List.replicate k z).flatten := by
    rw [part, hk, List.replicate_succ, List.flatten_cons, List.append_assoc]
  have h3 : xs.take (i + 1) = xs.take i ++ [x] := by rw [List.take_add_one, hi]; rfl
  rw [h2, ← h1, setAt_mid _ _ _ _ (by rw [hz, hx x (List.mem_of_getElem? hi)]), part, hk2, h3]
  simp
theorem part_made {z : List Value} {xs : List (List AV)} {sz m : Nat} (hz : z.length = sz) (hp : 0 < sz) (hm : m = xs.length * sz) : madeK z m = part (z.map constAV) xs 0 := by
  subst hm
  have h1 : (List.replicate xs.length (z.map constAV)).flatten.length = xs.length * sz := by rw [length_flatten' sz]; · simp
                                                                                             · intro x hx; rw [List.eq_of_mem_replicate hx]; simp [hz]
  apply List.ext_getElem?
  intro i
  by_cases hi : i < xs.length * sz
  · have hq : i / sz < xs.length := (Nat.div_lt_iff_lt_mul hp).2 hi
    have hr : i % sz < sz := Nat.mod_lt _ hp
    have hf := flatten_get sz (List.replicate xs.length (z.map constAV)) (i / sz) (i % sz) (z.map constAV) (constAV (z.getD (i % sz) undef)) (fun x hx => by rw [List.eq_of_mem_replicate hx]; simp [hz]) (by simp [hq]) (by simp [hz, hr, List.getD])
    rw [show i / sz * sz + i % sz = i by rw [Nat.mul_comm]; exact Nat.div_add_mod _ _] at hf
    simp only [part, List.take_zero, List.flatten_nil, List.nil_append, Nat.sub_zero]
    rw [hf, madeK]
    simp [hi, hz]
  · rw [List.getElem?_eq_none (by simp [madeK]; omega)]
    simp only [part, List.take_zero, List.flatten_nil, List.nil_append, Nat.sub_zero]
    rw [List.getElem?_eq_none (by rw [h1]; omega)]
theorem part_all (z : List AV) (xs : List (List AV)) : part z xs xs.length = xs.flatten := by simp [part]
theorem part_len {z : List AV} {xs : List (List AV)} {i sz : Nat} (hz : z.length = sz) (hx : ∀ x ∈ xs, x.length = sz) (hi : i ≤ xs.length) : (part z xs i).length = xs.length * sz := by
  rw [part, List.length_append, length_flatten' sz _ (fun x h => hx x (List.mem_of_mem_take h)), length_flatten' sz _ (fun x h => by rw [List.eq_of_mem_replicate h]; exact hz), List.length_take, List.length_replicate, ← Nat.add_mul]
  congr 1; omega
theorem strs_get {l : List Str} {i : Nat} (hi : i < l.length) : (strs l)[i]? = some [.str (l.getD i [])] := by simp [strs_eq, List.getD, hi]
theorem toStringS.ret (l : List Str) (hl : l.length ≤ 1048576) : toStringS.Ret [.list none (strs l)] (.list (some 0) (strs l)) [(9, 1, l.length)] := by
  refine toStringS.of rfl ?_
  repeat' first
    | contradiction | exact trivial
    | (conv => whnf
       first | refine Need.mk (fun h => h) ?_ | refine Need.mk rfl ?_ | refine Need.mk ⟨rfl, Nat.le_of_ble_eq_true rfl⟩ ?_ | refine Need.mk (Nat.le_of_ble_eq_true rfl) ?_ | refine Need.fin ?_ | refine Need.mk ?_ ?_ | refine Ix.strsF rfl ?_ | refine Ix.strs rfl ?_ ?_ | refine Cut.strs rfl ?_ ?_ | refine Ix.mapF (fun _ => rfl) ?_ | refine Ix.map (fun _ => rfl) ?_ ?_ | refine Cut.map (fun _ => rfl) ?_ ?_ | refine Fork.yes (by assumption) ?_ | refine Fork.no (by assumption) ?_ | refine Fork.decYes (by omega) ?_ | refine Fork.decNo (by omega) ?_ | refine Fork.dec (fun _ => ?_) (fun _ => ?_) | refine Fork.bne (fun _ => ?_) (fun _ => ?_) | refine Fork.beq (fun _ => ?_) (fun _ => ?_) | refine Fork.seq (fun _ => ?_) (fun _ => ?_) | refine Fork.sne (fun _ => ?_) (fun _ => ?_) | refine Fork.neg (fun _ => ?_) (fun _ => ?_) | refine Fork.mk (fun _ => ?_) (fun _ => ?_) | refine HAlt.mk ?_ ?_ | apply HJoin.mk3 | exact HEnd.mk rfl rfl rfl | refine HEnd.mk ?_ ?_ ?_ | refine Round.mk ?_ | refine NilQ.mk (fun b hb => ?_) | refine forceK_of ?_ | refine forceBx_of ?_ | refine unG_old ?_ | refine unG_gv ?_ | refine Lit.read rfl ?_ | refine FinVal.keep ?_ | refine FinAgg.keep ?_ | refine Final.mk rfl rfl | refine Final.mk ?_ rfl | refine Final.mk ?_ ?_ | refine FinalT.mk ?_ ?_ | refine FinalC.allA ?_)
    | refine AV.bool_congr ?_ | refine AV.int_congr ?_ | refine AV.str_congr ?_ | refine AV.list_congr ?_ | with_reducible rfl | refine fr1 ?_ | refine fr2 ?_ ?_
  refine ALoop.mk Nat (fun i => ⟨[(0, .list none (strs l)), (3, .bsl 0 l.length), (4, .val (.int .i64 i))], [.cells (.row 9 1) (part [.str []] (strs l) i)], []⟩) (fun i => i ≤ l.length) (fun i => l.length - i) ⟨0, Nat.zero_le _, ?_⟩ (fun i hi => ?_)
  · repeat' first
      | exact trivial | refine Weak.mk ?_ ?_ ?_ ?_ (Or.inl (Nat.le_of_ble_eq_true rfl)) | refine Weak.mk ?_ ?_ ?_ ?_ (Or.inr ⟨(by repeat' first | exact trivial | exact Nat.le_of_ble_eq_true rfl | refine And.intro ?_ ?_), (by repeat' first | exact trivial | exact Nat.le_of_ble_eq_true rfl | refine And.intro ?_ ?_)⟩) | refine Weak.mk ?_ ?_ ?_ ?_ ?_ | refine And.intro ?_ ?_ | with_reducible rfl | exact Nat.le_of_ble_eq_true rfl | refine fr1 ?_ | refine fr2 ?_ ?_ | refine AV.int_congr ?_ | refine AV.bool_congr ?_ | refine AV.str_congr ?_ | refine AV.list_congr ?_ | refine AV.bsl_congr ?_ ?_ | (apply rfl)
    · simp
    · simp only [List.nil_append, List.length_cons, List.length_nil, List.take_succ_cons, List.take_zero]
      rw [part_made (xs := strs l) (sz := 1) rfl (by decide) (by simp)]; rfl
  repeat' first
    | contradiction | exact trivial
    | (conv => whnf
       first | refine Need.mk (fun h => h) ?_ | refine Need.mk rfl ?_ | refine Need.mk ⟨rfl, Nat.le_of_ble_eq_true rfl⟩ ?_ | refine Need.mk (Nat.le_of_ble_eq_true rfl) ?_ | refine Need.fin ?_ | refine Need.mk ?_ ?_ | refine Ix.strsF rfl ?_ | refine Ix.strs rfl ?_ ?_ | refine Cut.strs rfl ?_ ?_ | refine Ix.mapF (fun _ => rfl) ?_ | refine Ix.map (fun _ => rfl) ?_ ?_ | refine Cut.map (fun _ => rfl) ?_ ?_ | refine Fork.yes (by assumption) ?_ | refine Fork.no (by assumption) ?_ | refine Fork.decYes (by omega) ?_ | refine Fork.decNo (by omega) ?_ | refine Fork.dec (fun _ => ?_) (fun _ => ?_) | refine Fork.bne (fun _ => ?_) (fun _ => ?_) | refine Fork.beq (fun _ => ?_) (fun _ => ?_) | refine Fork.seq (fun _ => ?_) (fun _ => ?_) | refine Fork.sne (fun _ => ?_) (fun _ => ?_) | refine Fork.neg (fun _ => ?_) (fun _ => ?_) | refine Fork.mk (fun _ => ?_) (fun _ => ?_) | refine HAlt.mk ?_ ?_ | apply HJoin.mk3 | exact HEnd.mk rfl rfl rfl | refine HEnd.mk ?_ ?_ ?_ | refine Round.mk ?_ | refine NilQ.mk (fun b hb => ?_) | refine forceK_of ?_ | refine forceBx_of ?_ | refine unG_old ?_ | refine unG_gv ?_ | refine Lit.read rfl ?_ | refine FinVal.keep ?_ | refine FinAgg.keep ?_ | refine Final.mk rfl rfl | refine Final.mk ?_ rfl | refine Final.mk ?_ ?_ | refine FinalT.mk ?_ ?_ | refine FinalC.allA ?_)
    | refine AV.bool_congr ?_ | refine AV.int_congr ?_ | refine AV.str_congr ?_ | refine AV.list_congr ?_ | with_reducible rfl | refine fr1 ?_ | refine fr2 ?_ ?_
  · rename_i h
    rw [length_strs] at h
    rw [part_len (sz := 1) rfl (strs_sz l) (by simp; exact hi), Int.toNat_natCast, length_strs]
    exact ⟨rfl, by omega⟩
  · rename_i h
    rw [length_strs] at h
    refine ⟨i + 1, by omega, ?_, by omega⟩
    repeat' first
      | exact trivial | refine Weak.mk ?_ ?_ ?_ ?_ (Or.inl (Nat.le_of_ble_eq_true rfl)) | refine Weak.mk ?_ ?_ ?_ ?_ (Or.inr ⟨(by repeat' first | exact trivial | exact Nat.le_of_ble_eq_true rfl | refine And.intro ?_ ?_), (by repeat' first | exact trivial | exact Nat.le_of_ble_eq_true rfl | refine And.intro ?_ ?_)⟩) | refine Weak.mk ?_ ?_ ?_ ?_ ?_ | refine And.intro ?_ ?_ | with_reducible rfl | exact Nat.le_of_ble_eq_true rfl | refine fr1 ?_ | refine fr2 ?_ ?_ | refine AV.int_congr ?_ | refine AV.bool_congr ?_ | refine AV.str_congr ?_ | refine AV.list_congr ?_ | refine AV.bsl_congr ?_ ?_ | (apply rfl)
    · rw [wrap64 (by omega) (by omega)]; rfl
    · simp only [Int.toNat_natCast]
      have := part_set (z := [.str []]) (sz := 1) rfl (strs_sz l) (strs_get (l := l) (i := i) (by omega))
      simp only [List.set_cons_zero, List.take_succ_cons, List.take_zero, List.length_cons, List.length_nil, this]
  · rename_i h
    rw [length_strs] at h
    conv => whnf
    have : i = l.length := by omega
    subst this
    refine FreezeD.flat (Freeze.mk (strs l) _ 9 1 rfl (by have := part_all [.str []] (strs l); rwa [length_strs] at this) (by simp) (strs_sz l) (fun c hc => ?_) ?_)
    · have e := part_all [.str []] (strs l)
      rw [length_strs] at e
      rw [e, List.mem_flatten] at hc
      obtain ⟨x, hx, hc⟩ := hc
      rw [strs_eq] at hx
      obtain ⟨s, _, rfl⟩ := List.mem_map.1 hx
      simp at hc; subst hc; rfl
    · exact Final.mk rfl rfl
theorem own_strs (fr : Fr) : ∀ l : List Str, OwnA fr (l.map sq).flatten (strs l).flatten []
  | [] => .nil
  | s :: l => .s s (own_strs fr l)
theorem eqStringS.ret (l m : List Str) (hl : l.length ≤ 1099511627776) : eqStringS.Ret [.list none (strs l), .list none (strs m)] (.val (.bool (decide (l = m)))) [] := by
  refine eqStringS.of rfl ?_
  repeat' first
    | contradiction | exact trivial
    | (conv => whnf
       first | refine Need.mk (fun h => h) ?_ | refine Need.mk rfl ?_ | refine Need.mk ⟨rfl, Nat.le_of_ble_eq_true rfl⟩ ?_ | refine Need.mk (Nat.le_of_ble_eq_true rfl) ?_ | refine Need.fin ?_ | refine Need.mk ?_ ?_ | refine Ix.strsF rfl ?_ | refine Ix.strs rfl ?_ ?_ | refine Cut.strs rfl ?_ ?_ | refine Ix.mapF (fun _ => rfl) ?_ | refine Ix.map (fun _ => rfl) ?_ ?_ | refine Cut.map (fun _ => rfl) ?_ ?_ | refine Fork.yes (by assumption) ?_ | refine Fork.no (by assumption) ?_ | refine Fork.decYes (by omega) ?_ | refine Fork.decNo (by omega) ?_ | refine Fork.dec (fun _ => ?_) (fun _ => ?_) | refine Fork.bne (fun _ => ?_) (fun _ => ?_) | refine Fork.beq (fun _ => ?_) (fun _ => ?_) | refine Fork.seq (fun _ => ?_) (fun _ => ?_) | refine Fork.sne (fun _ => ?_) (fun _ => ?_) | refine Fork.neg (fun _ => ?_) (fun _ => ?_) | refine Fork.mk (fun _ => ?_) (fun _ => ?_) | refine HAlt.mk ?_ ?_ | apply HJoin.mk3 | exact HEnd.mk rfl rfl rfl | refine HEnd.mk ?_ ?_ ?_ | refine Round.mk ?_ | refine NilQ.mk (fun b hb => ?_) | refine forceK_of ?_ | refine forceBx_of ?_ | refine unG_old ?_ | refine unG_gv ?_ | refine Lit.read rfl ?_ | refine FinVal.keep ?_ | refine FinAgg.keep ?_ | refine Final.mk rfl rfl | refine Final.mk ?_ rfl | refine Final.mk ?_ ?_ | refine FinalT.mk ?_ ?_ | refine FinalC.allA ?_)
    | refine AV.bool_congr ?_ | refine AV.int_congr ?_ | refine AV.str_congr ?_ | refine AV.list_congr ?_ | with_reducible rfl | refine fr1 ?_ | refine fr2 ?_ ?_
  · rename_i h
    rw [length_strs, length_strs] at h
    have h3 : ¬ l = m := fun e => h (by rw [e])
    simp [h3]
  rename_i h
  rw [length_strs, length_strs] at h
  have h : l.length = m.length := by omega
  repeat' first
    | contradiction | exact trivial
    | (conv => whnf
       first | refine Need.mk (fun h => h) ?_ | refine Need.mk rfl ?_ | refine Need.mk ⟨rfl, Nat.le_of_ble_eq_true rfl⟩ ?_ | refine Need.mk (Nat.le_of_ble_eq_true rfl) ?_ | refine Need.fin ?_ | refine Need.mk ?_ ?_ | refine Ix.strsF rfl ?_ | refine Ix.strs rfl ?_ ?_ | refine Cut.strs rfl ?_ ?_ | refine Ix.mapF (fun _ => rfl) ?_ | refine Ix.map (fun _ => rfl) ?_ ?_ | refine Cut.map (fun _ => rfl) ?_ ?_ | refine Fork.yes (by assumption) ?_ | refine Fork.no (by assumption) ?_ | refine Fork.decYes (by omega) ?_ | refine Fork.decNo (by omega) ?_ | refine Fork.dec (fun _ => ?_) (fun _ => ?_) | refine Fork.bne (fun _ => ?_) (fun _ => ?_) | refine Fork.beq (fun _ => ?_) (fun _ => ?_) | refine Fork.seq (fun _ => ?_) (fun _ => ?_) | refine Fork.sne (fun _ => ?_) (fun _ => ?_) | refine Fork.neg (fun _ => ?_) (fun _ => ?_) | refine Fork.mk (fun _ => ?_) (fun _ => ?_) | refine HAlt.mk ?_ ?_ | apply HJoin.mk3 | exact HEnd.mk rfl rfl rfl | refine HEnd.mk ?_ ?_ ?_ | refine Round.mk ?_ | refine NilQ.mk (fun b hb => ?_) | refine forceK_of ?_ | refine forceBx_of ?_ | refine unG_old ?_ | refine unG_gv ?_ | refine Lit.read rfl ?_ | refine FinVal.keep ?_ | refine FinAgg.keep ?_ | refine Final.mk rfl rfl | refine Final.mk ?_ rfl | refine Final.mk ?_ ?_ | refine FinalT.mk ?_ ?_ | refine FinalC.allA ?_)
    | refine AV.bool_congr ?_ | refine AV.int_congr ?_ | refine AV.str_congr ?_ | refine AV.list_congr ?_ | with_reducible rfl | refine fr1 ?_ | refine fr2 ?_ ?_
  refine ALoop.mk Nat (fun i => ⟨[(0, .list none (strs l)), (1, .list none (strs m)), (5, .val (.int .i64 i))], [], []⟩) (fun i => i ≤ l.length ∧ l.take i = m.take i) (fun i => l.length - i) ⟨0, ⟨Nat.zero_le _, rfl⟩, ?_⟩ (fun i hi => ?_)
  · repeat' first
      | exact trivial | refine Weak.mk ?_ ?_ ?_ ?_ (Or.inl (Nat.le_of_ble_eq_true rfl)) | refine Weak.mk ?_ ?_ ?_ ?_ (Or.inr ⟨(by repeat' first | exact trivial | exact Nat.le_of_ble_eq_true rfl | refine And.intro ?_ ?_), (by repeat' first | exact trivial | exact Nat.le_of_ble_eq_true rfl | refine And.intro ?_ ?_)⟩) | refine Weak.mk ?_ ?_ ?_ ?_ ?_ | refine And.intro ?_ ?_ | with_reducible rfl | exact Nat.le_of_ble_eq_true rfl | refine fr1 ?_ | refine fr2 ?_ ?_ | refine AV.int_congr ?_ | refine AV.bool_congr ?_ | refine AV.str_congr ?_ | refine AV.list_congr ?_ | refine AV.bsl_congr ?_ ?_ | (apply rfl)
  repeat' first
    | contradiction | exact trivial
    | (conv => whnf
       first | refine Need.mk (fun h => h) ?_ | refine Need.mk rfl ?_ | refine Need.mk ⟨rfl, Nat.le_of_ble_eq_true rfl⟩ ?_ | refine Need.mk (Nat.le_of_ble_eq_true rfl) ?_ | refine Need.fin ?_ | refine Need.mk ?_ ?_ | refine Ix.strsF rfl ?_ | refine Ix.strs rfl ?_ ?_ | refine Cut.strs rfl ?_ ?_ | refine Ix.mapF (fun _ => rfl) ?_ | refine Ix.map (fun _ => rfl) ?_ ?_ | refine Cut.map (fun _ => rfl) ?_ ?_ | refine Fork.yes (by assumption) ?_ | refine Fork.no (by assumption) ?_ | refine Fork.decYes (by omega) ?_ | refine Fork.decNo (by omega) ?_ | refine Fork.dec (fun _ => ?_) (fun _ => ?_) | refine Fork.bne (fun _ => ?_) (fun _ => ?_) | refine Fork.beq (fun _ => ?_) (fun _ => ?_) | refine Fork.seq (fun _ => ?_) (fun _ => ?_) | refine Fork.sne (fun _ => ?_) (fun _ => ?_) | refine Fork.neg (fun _ => ?_) (fun _ => ?_) | refine Fork.mk (fun _ => ?_) (fun _ => ?_) | refine HAlt.mk ?_ ?_ | apply HJoin.mk3 | exact HEnd.mk rfl rfl rfl | refine HEnd.mk ?_ ?_ ?_ | refine Round.mk ?_ | refine NilQ.mk (fun b hb => ?_) | refine forceK_of ?_ | refine forceBx_of ?_ | refine unG_old ?_ | refine unG_gv ?_ | refine Lit.read rfl ?_ | refine FinVal.keep ?_ | refine FinAgg.keep ?_ | refine Final.mk rfl rfl | refine Final.mk ?_ rfl | refine Final.mk ?_ ?_ | refine FinalT.mk ?_ ?_ | refine FinalC.allA ?_)
    | refine AV.bool_congr ?_ | refine AV.int_congr ?_ | refine AV.str_congr ?_ | refine AV.list_congr ?_ | with_reducible rfl | refine fr1 ?_ | refine fr2 ?_ ?_
  · rename_i h1 h2
    have h3 : ¬ l = m := fun e => h2 (by rw [e])
    simp [h3]
  · rename_i h1 h2
    rw [length_strs] at h1
    refine ⟨i + 1, ⟨by omega, ?_⟩, ?_, by omega⟩
    · rw [take_succ' [] (by omega), take_succ' (l := m) [] (by omega), hi.2]
      rw [Int.toNat_natCast] at h2
      have h2' : l.getD i [] = m.getD i [] := h2
      rw [h2']
    · repeat' first
        | exact trivial | refine Weak.mk ?_ ?_ ?_ ?_ (Or.inl (Nat.le_of_ble_eq_true rfl)) | refine Weak.mk ?_ ?_ ?_ ?_ (Or.inr ⟨(by repeat' first | exact trivial | exact Nat.le_of_ble_eq_true rfl | refine And.intro ?_ ?_), (by repeat' first | exact trivial | exact Nat.le_of_ble_eq_true rfl | refine And.intro ?_ ?_)⟩) | refine Weak.mk ?_ ?_ ?_ ?_ ?_ | refine And.intro ?_ ?_ | with_reducible rfl | exact Nat.le_of_ble_eq_true rfl | refine fr1 ?_ | refine fr2 ?_ ?_ | refine AV.int_congr ?_ | refine AV.bool_congr ?_ | refine AV.str_congr ?_ | refine AV.list_congr ?_ | refine AV.bsl_congr ?_ ?_ | (apply rfl)
      rw [wrap64 (by omega) (by omega)]; rfl
  · rename_i h1
    rw [length_strs] at h1
    have h2 := hi.2
    rw [List.take_of_length_le (by omega), List.take_of_length_le (by omega)] at h2
    simp [h2]
def szL : List Str → Nat
  | [] => 0
  | s :: l => s.length + szL l
def szT (l : List Str) : Nat := l.length + szL l
theorem szL_take_succ {l : List Str} {i : Nat} (hi : i < l.length) : szL (l.take (i + 1)) = szL (l.take i) + (l.getD i []).length := by
  induction l generalizing i with
  | nil => simp at hi
  | cons s l ih =>
    cases i with
    | zero => simp [szL]
    | succ i => simp only [List.take_succ_cons, szL, ih (show i < l.length by simpa using hi)]; simp [Nat.add_assoc]
theorem szL_le_take (l : List Str) (i : Nat) : szL (l.take i) ≤ szL l := by
  induction l generalizing i with
  | nil => simp [szL]
  | cons s l ih => cases i with
    | zero => simp [szL]
    | succ i => simp only [List.take_succ_cons, szL]; have := ih i; omega
/-- what is left of a, or -1 -/
def left (a : Int) (n : Nat) : Int := if a - n < 0 then -1 else a - n
theorem left_eq {a : Int} {n : Nat} {x : Int} (h : (x = -1 ∧ a < n) ∨ (x = a - n ∧ ¬ a < n)) : x = left a n := by unfold left; split <;> omega
theorem szStringS.ret (l : List Str) (a : Int) (h0 : 0 ≤ a) (ha : a ≤ 1048576) (hl : l.length ≤ 9223372036854775807) (hs : ∀ s ∈ l, s.length ≤ 9223372036854775807) :
    szStringS.Ret [.list none (strs l), .val (.int .i64 a)] (.val (.int .i64 (left a (szT l)))) [] := by
  refine szStringS.of rfl ?_
  have hw : IntKind.i64.wrap (a - ((strs l).length : Int)) = a - l.length := by rw [length_strs]; exact wrap64 (by omega) (by omega)
  repeat' first
    | contradiction | exact trivial
    | (conv => whnf
       first | refine Need.mk (fun h => h) ?_ | refine Need.mk rfl ?_ | refine Need.mk ⟨rfl, Nat.le_of_ble_eq_true rfl⟩ ?_ | refine Need.mk (Nat.le_of_ble_eq_true rfl) ?_ | refine Need.fin ?_ | refine Need.mk ?_ ?_ | refine Ix.strsF rfl ?_ | refine Ix.strs rfl ?_ ?_ | refine Cut.strs rfl ?_ ?_ | refine Ix.mapF (fun _ => rfl) ?_ | refine Ix.map (fun _ => rfl) ?_ ?_ | refine Cut.map (fun _ => rfl) ?_ ?_ | refine Fork.yes (by assumption) ?_ | refine Fork.no (by assumption) ?_ | refine Fork.decYes (by omega) ?_ | refine Fork.decNo (by omega) ?_ | refine Fork.dec (fun _ => ?_) (fun _ => ?_) | refine Fork.bne (fun _ => ?_) (fun _ => ?_) | refine Fork.beq (fun _ => ?_) (fun _ => ?_) | refine Fork.seq (fun _ => ?_) (fun _ => ?_) | refine Fork.sne (fun _ => ?_) (fun _ => ?_) | refine Fork.neg (fun _ => ?_) (fun _ => ?_) | refine Fork.mk (fun _ => ?_) (fun _ => ?_) | refine HAlt.mk ?_ ?_ | apply HJoin.mk3 | exact HEnd.mk rfl rfl rfl | refine HEnd.mk ?_ ?_ ?_ | refine Round.mk ?_ | refine NilQ.mk (fun b hb => ?_) | refine forceK_of ?_ | refine forceBx_of ?_ | refine unG_old ?_ | refine unG_gv ?_ | refine Lit.read rfl ?_ | refine FinVal.keep ?_ | refine FinAgg.keep ?_ | refine Final.mk rfl rfl | refine Final.mk ?_ rfl | refine Final.mk ?_ ?_ | refine FinalT.mk ?_ ?_ | refine FinalC.allA ?_)
    | refine AV.bool_congr ?_ | refine AV.int_congr ?_ | refine AV.str_congr ?_ | refine AV.list_congr ?_ | with_reducible rfl | refine fr1 ?_ | refine fr2 ?_ ?_
  · rename_i h
    rw [hw] at h
    rw [left, if_pos (by unfold szT; omega)]
  rename_i h
  rw [hw] at h
  repeat' first
    | contradiction | exact trivial
    | (conv => whnf
       first | refine Need.mk (fun h => h) ?_ | refine Need.mk rfl ?_ | refine Need.mk ⟨rfl, Nat.le_of_ble_eq_true rfl⟩ ?_ | refine Need.mk (Nat.le_of_ble_eq_true rfl) ?_ | refine Need.fin ?_ | refine Need.mk ?_ ?_ | refine Ix.strsF rfl ?_ | refine Ix.strs rfl ?_ ?_ | refine Cut.strs rfl ?_ ?_ | refine Ix.mapF (fun _ => rfl) ?_ | refine Ix.map (fun _ => rfl) ?_ ?_ | refine Cut.map (fun _ => rfl) ?_ ?_ | refine Fork.yes (by assumption) ?_ | refine Fork.no (by assumption) ?_ | refine Fork.decYes (by omega) ?_ | refine Fork.decNo (by omega) ?_ | refine Fork.dec (fun _ => ?_) (fun _ => ?_) | refine Fork.bne (fun _ => ?_) (fun _ => ?_) | refine Fork.beq (fun _ => ?_) (fun _ => ?_) | refine Fork.seq (fun _ => ?_) (fun _ => ?_) | refine Fork.sne (fun _ => ?_) (fun _ => ?_) | refine Fork.neg (fun _ => ?_) (fun _ => ?_) | refine Fork.mk (fun _ => ?_) (fun _ => ?_) | refine HAlt.mk ?_ ?_ | apply HJoin.mk3 | exact HEnd.mk rfl rfl rfl | refine HEnd.mk ?_ ?_ ?_ | refine Round.mk ?_ | refine NilQ.mk (fun b hb => ?_) | refine forceK_of ?_ | refine forceBx_of ?_ | refine unG_old ?_ | refine unG_gv ?_ | refine Lit.read rfl ?_ | refine FinVal.keep ?_ | refine FinAgg.keep ?_ | refine Final.mk rfl rfl | refine Final.mk ?_ rfl | refine Final.mk ?_ ?_ | refine FinalT.mk ?_ ?_ | refine FinalC.allA ?_)
    | refine AV.bool_congr ?_ | refine AV.int_congr ?_ | refine AV.str_congr ?_ | refine AV.list_congr ?_ | with_reducible rfl | refine fr1 ?_ | refine fr2 ?_ ?_
  refine ALoop.mk Nat (fun i => ⟨[(0, .list none (strs l)), (1, .val (.int .i64 (a - l.length - szL (l.take i)))), (5, .val (.int .i64 i))], [], []⟩) (fun i => i ≤ l.length ∧ (0 : Int) ≤ a - l.length - szL (l.take i)) (fun i => l.length - i) ⟨0, ⟨Nat.zero_le _, by simp [szL]; omega⟩, ?_⟩ (fun i hi => ?_)
  · repeat' first
      | exact trivial | refine Weak.mk ?_ ?_ ?_ ?_ (Or.inl (Nat.le_of_ble_eq_true rfl)) | refine Weak.mk ?_ ?_ ?_ ?_ (Or.inr ⟨(by repeat' first | exact trivial | exact Nat.le_of_ble_eq_true rfl | refine And.intro ?_ ?_), (by repeat' first | exact trivial | exact Nat.le_of_ble_eq_true rfl | refine And.intro ?_ ?_)⟩) | refine Weak.mk ?_ ?_ ?_ ?_ ?_ | refine And.intro ?_ ?_ | with_reducible rfl | exact Nat.le_of_ble_eq_true rfl | refine fr1 ?_ | refine fr2 ?_ ?_ | refine AV.int_congr ?_ | refine AV.bool_congr ?_ | refine AV.str_congr ?_ | refine AV.list_congr ?_ | refine AV.bsl_congr ?_ ?_ | (apply rfl)
    rw [hw]; simp [szL]
  obtain ⟨hp1, hp2⟩ := hi
  have hg : ∀ i, (l.getD i []).length ≤ 9223372036854775807 := fun i => by
    rcases Nat.lt_or_ge i l.length with h | h
    · simp only [List.getD, List.getElem?_eq_getElem h, Option.getD_some]; exact hs _ (List.getElem_mem h)
    · simp [List.getD, List.getElem?_eq_none h]
  repeat' first
    | contradiction | exact trivial
    | (conv => whnf
       first | refine Need.mk (fun h => h) ?_ | refine Need.mk rfl ?_ | refine Need.mk ⟨rfl, Nat.le_of_ble_eq_true rfl⟩ ?_ | refine Need.mk (Nat.le_of_ble_eq_true rfl) ?_ | refine Need.fin ?_ | refine Need.mk ?_ ?_ | refine Ix.strsF rfl ?_ | refine Ix.strs rfl ?_ ?_ | refine Cut.strs rfl ?_ ?_ | refine Ix.mapF (fun _ => rfl) ?_ | refine Ix.map (fun _ => rfl) ?_ ?_ | refine Cut.map (fun _ => rfl) ?_ ?_ | refine Fork.yes (by assumption) ?_ | refine Fork.no (by assumption) ?_ | refine Fork.decYes (by omega) ?_ | refine Fork.decNo (by omega) ?_ | refine Fork.dec (fun _ => ?_) (fun _ => ?_) | refine Fork.bne (fun _ => ?_) (fun _ => ?_) | refine Fork.beq (fun _ => ?_) (fun _ => ?_) | refine Fork.seq (fun _ => ?_) (fun _ => ?_) | refine Fork.sne (fun _ => ?_) (fun _ => ?_) | refine Fork.neg (fun _ => ?_) (fun _ => ?_) | refine Fork.mk (fun _ => ?_) (fun _ => ?_) | refine HAlt.mk ?_ ?_ | apply HJoin.mk3 | exact HEnd.mk rfl rfl rfl | refine HEnd.mk ?_ ?_ ?_ | refine Round.mk ?_ | refine NilQ.mk (fun b hb => ?_) | refine forceK_of ?_ | refine forceBx_of ?_ | refine unG_old ?_ | refine unG_gv ?_ | refine Lit.read rfl ?_ | refine FinVal.keep ?_ | refine FinAgg.keep ?_ | refine Final.mk rfl rfl | refine Final.mk ?_ rfl | refine Final.mk ?_ ?_ | refine FinalT.mk ?_ ?_ | refine FinalC.allA ?_)
    | refine AV.bool_congr ?_ | refine AV.int_congr ?_ | refine AV.str_congr ?_ | refine AV.list_congr ?_ | with_reducible rfl | refine fr1 ?_ | refine fr2 ?_ ?_
  · rename_i h1 h2
    rw [length_strs] at h1
    have h4 := hg i
    have h3 := szL_take_succ (l := l) (i := i) (by omega)
    have h5 := szL_le_take l (i + 1)
    change IntKind.i64.wrap (a - ↑l.length - ↑(szL (l.take i)) - ((l.getD i []).length : Int)) < 0 at h2
    rw [wrap64 (by omega) (by omega)] at h2
    rw [left, if_pos (by unfold szT; omega)]
  · rename_i h1 h2
    rw [length_strs] at h1
    have h4 := hg i
    have h3 := szL_take_succ (l := l) (i := i) (by omega)
    change ¬ IntKind.i64.wrap (a - ↑l.length - ↑(szL (l.take i)) - ((l.getD i []).length : Int)) < 0 at h2
    rw [wrap64 (by omega) (by omega)] at h2
    refine ⟨i + 1, ⟨by omega, by omega⟩, ?_, by omega⟩
    repeat' first
      | exact trivial | refine Weak.mk ?_ ?_ ?_ ?_ (Or.inl (Nat.le_of_ble_eq_true rfl)) | refine Weak.mk ?_ ?_ ?_ ?_ (Or.inr ⟨(by repeat' first | exact trivial | exact Nat.le_of_ble_eq_true rfl | refine And.intro ?_ ?_), (by repeat' first | exact trivial | exact Nat.le_of_ble_eq_true rfl | refine And.intro ?_ ?_)⟩) | refine Weak.mk ?_ ?_ ?_ ?_ ?_ | refine And.intro ?_ ?_ | with_reducible rfl | exact Nat.le_of_ble_eq_true rfl | refine fr1 ?_ | refine fr2 ?_ ?_ | refine AV.int_congr ?_ | refine AV.bool_congr ?_ | refine AV.str_congr ?_ | refine AV.list_congr ?_ | refine AV.bsl_congr ?_ ?_ | (apply rfl)
    · change IntKind.i64.wrap (a - ↑l.length - ↑(szL (l.take i)) - ((l.getD i []).length : Int)) = _
      rw [wrap64 (by omega) (by omega)]; omega
    · rw [wrap64 (by omega) (by omega)]; rfl
  · rename_i h1
    rw [length_strs] at h1
    rw [List.take_of_length_le (by omega)] at hp2 ⊢
    rw [left, if_neg (by unfold szT; omega)]; unfold szT; omega
end Go.Proofs.YtimcfgokocihnaaGreat
namespace Go.Proofs.YtimcfgokocihnaaGreat
open Abs
def digs : Nat → Nat → Str → Str
  | 0, _, a => a
  | n + 1, k, a => if k = 0 then a else digs n (k / 10) (UInt8.ofNat (48 + k % 10) :: a)
@[irreducible] def markF (k : Nat) : Str := if k = 0 then [109, 48] else 109 :: digs k k []
def markL (n k : Nat) : List Str := (List.range n).map fun i => markF (k + i)
@[simp] theorem length_markL (n k : Nat) : (markL n k).length = n := by simp [markL]
theorem gvLL_sq : ∀ (l : List Str) (n : Nat), gvLL (l.map sq) n = l.map AV.str
  | [], _ => rfl
  | s :: l, n => by simp [gvLL, sq, gvL, gv, gvLL_sq l]
theorem gbLL_sq : ∀ (l : List Str) (n : Nat), gbLL (l.map sq) n = []
  | [], _ => rfl
  | s :: l, n => by simp [gbLL, sq, gbL, gb, gbLL_sq l]
def strT (l : List Str) : Tr := .l 9 1 (l.map sq)
theorem gb_strT (l : List Str) (n : Nat) : gb (strT l) n = [.cells (.row 9 1) (l.map AV.str)] := by rw [strT, gb, gvLL_sq, gbLL_sq]
theorem gv_strT (l : List Str) (n : Nat) : gv (strT l) n = .bsl n l.length := by rw [strT, gv, List.length_map]
end Go.Proofs.YtimcfgokocihnaaGreat
namespace Go.Proofs.YtimcfgokocihnaaGreat
open Abs
def tStrs : Ty (List Str) := Ty.plain 9 Ty.str (fun _ => rfl) (fun _ => rfl)
abbrev Fct := Str × List Str
def tFct : Ty Fct := Ty.pair Ty.str tStrs
theorem szT_eq (l : List Str) : szT l = tStrs.size l := by
  show szT l = l.length + listSize Ty.str l
  unfold szT
  congr 1
  induction l with
  | nil => rfl
  | cons s l ih => simp only [szL, listSize, ih]; rfl
theorem Abs.ACall.mkStrs {C : Con} {lend : Bool} {f : Nat} {vs : List AV} {b : List ABox} {fr : Fr} {k : AV → List ABox → Fr → Prop} (ys : List AV) (l : List Str) (h : C.ret f ys (.list (some 0) (strs l)) [(9, 1, l.length)]) (hv : SeesL Sees0 vs ys)
    (hk : k (.list (some fr.length) (strs l)) b (fr ++ [(9, 1, l.length)])) : ACall C lend f vs b fr k :=
  ACall.mkV tStrs ys l (fun n => .list (some n) (strs l)) (fun _ => rfl) h hv hk
theorem tFct_size (f : Fct) : tFct.size f = f.1.length + tStrs.size f.2 := rfl
theorem tStrs_size (l : List Str) : tStrs.size l = l.length + listSize Ty.str l := rfl
end Go.Proofs.YtimcfgokocihnaaGreat
namespace Go.Proofs.YtimcfgokocihnaaGreat
open Abs
end Go.Proofs.YtimcfgokocihnaaGreat
namespace Go.Proofs.YtimcfgokocihnaaGreat
namespace Abs
mutual
/-- how many cells are marked: of a cell of an element, of its cells, of a slice's elements -/
def c1 : Tr → Nat
  | .v _ => 1
  | .s _ => 1
  | .l _ _ xs => cnLL xs
  | .a _ => 0
  | .p _ => 0
def cnC : List Tr → Nat
  | [] => 0
  | x :: xs => c1 x + cnC xs
def cnLL : List (List Tr) → Nat
  | [] => 0
  | x :: xs => cnC x + cnLL xs
end
mutual
/-- of a value: the cells in its slices -/
def cn : Tr → Nat
  | .l _ _ xs => cnLL xs
  | .a fs => cnA fs
  | .p fs => cnA fs
  | .v _ => 0
  | .s _ => 0
def cnA : List Tr → Nat
  | [] => 0
  | x :: xs => cn x + cnA xs
end
mutual
def m1 : Tr → Nat → Tr
  | .v _, k => .v (.int .i64 k)
  | .s _, k => .s (markF k)
  | .l t sz xs, k => .l t sz (mkLL xs k)
  | .a fs, _ => .a fs
  | .p fs, _ => .p fs
def mkC : List Tr → Nat → List Tr
  | [], _ => []
  | x :: xs, k => m1 x k :: mkC xs (k + c1 x)
def mkLL : List (List Tr) → Nat → List (List Tr)
  | [], _ => []
  | x :: xs, k => mkC x k :: mkLL xs (k + cnC x)
end
mutual
def mk : Tr → Nat → Tr
  | .l t sz xs, k => .l t sz (mkLL xs k)
  | .a fs, k => .a (mkA fs k)
  | .p fs, k => .p (mkA fs k)
  | .v x, _ => .v x
  | .s x, _ => .s x
def mkA : List Tr → Nat → List Tr
  | [], _ => []
  | x :: xs, k => mk x k :: mkA xs (k + cn x)
end
theorem cnC_append : ∀ xs ys, cnC (xs ++ ys) = cnC xs + cnC ys
  | [], ys => by simp [cnC]
  | x :: xs, ys => by rw [List.cons_append, cnC, cnC_append xs, cnC, Nat.add_assoc]
theorem Sees0.cut {xs : List AV} {ys : List Tr} (h : xs = oldL ys) : Sees0 (.agg xs) (.agg (oldL ys)) := by subst h; exact Sees0.oldagg ys
theorem cons_congr {α : Type} {a b : α} {l m : List α} (h : a = b) (h' : l = m) : a :: l = b :: m := by rw [h, h']
theorem tok_congr {a b : Nat} {l m : List (List AV)} (h : a = b) (h' : l = m) : AV.list (some a) l = AV.list (some b) m := by rw [h, h']
def CnB {α : Type} (T : Ty α) (w : Nat) : Prop := ∀ a, cnC (T.q a) ≤ w * (1 + T.size a)
theorem CnB.str : CnB Ty.str 1 := fun a => by show 1 + 0 ≤ 1 * (1 + _); omega
theorem CnB.int : CnB Ty.int 1 := fun a => by show 1 + 0 ≤ 1 * (1 + _); omega
theorem CnB.bool : CnB Ty.bool 1 := fun a => by show 1 + 0 ≤ 1 * (1 + _); omega
theorem CnB.pair {α β : Type} {T : Ty α} {U : Ty β} {w v : Nat} (h : CnB T w) (g : CnB U v) : CnB (Ty.pair T U) (w + v) := fun a => by
  show cnC (T.q a.1 ++ U.q a.2) ≤ (w + v) * (1 + (T.size a.1 + U.size a.2))
  rw [cnC_append, Nat.add_mul]
  exact Nat.add_le_add (Nat.le_trans (h a.1) (Nat.mul_le_mul_left _ (by omega))) (Nat.le_trans (g a.2) (Nat.mul_le_mul_left _ (by omega)))
theorem CnB.rows {α : Type} {T : Ty α} {w : Nat} (h : CnB T w) : ∀ l : List α, cnLL (l.map T.q) ≤ w * (l.length + listSize T l)
  | [] => Nat.zero_le _
  | a :: l => by
    have h1 := h.rows l
    have h2 := h a
    rw [List.map_cons, cnLL, List.length_cons, listSize]
    refine Nat.le_trans (Nat.add_le_add h2 h1) ?_
    rw [← Nat.mul_add]
    exact Nat.mul_le_mul_left _ (by omega)
theorem CnB.cellsL {α : Type} {T : Ty α} {w : Nat} (h : CnB T w) (t sz : Nat) (l : List α) : cnC [.l t sz (l.map T.q)] ≤ w * (1 + (l.length + listSize T l)) := by
  show cnLL (l.map T.q) + 0 ≤ _
  exact Nat.le_trans (h.rows l) (Nat.mul_le_mul_left _ (by omega))
theorem CnB.list {α : Type} {T : Ty α} {w : Nat} (h : CnB T w) (t : Nat) : CnB (Ty.list t T) w := fun l => h.cellsL t T.sz l
theorem CnB.plain {α : Type} {T : Ty α} {w : Nat} (h : CnB T w) (t : Nat) (h1 h2) : CnB (Ty.plain t T h1 h2) w := fun l => h.cellsL t T.sz l
theorem CnB.l {α : Type} {T : Ty α} {w : Nat} (h : CnB T w) (t sz : Nat) (l : List α) : cn (.l t sz (l.map T.q)) ≤ w * (l.length + listSize T l) := h.rows l
end Abs
end Go.Proofs.YtimcfgokocihnaaGreat
namespace Go.Proofs.YtimcfgokocihnaaGreat
open Abs
theorem Abs.ACall.mk_StringS {C : Con} {lend : Bool} {f : Nat} {vs : List AV} {b : List ABox} {fr : Fr} {k : AV → List ABox → Fr → Prop} (ys : List AV) (l : List Str) (h : C.ret f ys (.list (some 0) (strs l)) [(9, 1, l.length)]) (hv : SeesL Sees0 vs ys)
    (hk : k (.list (some fr.length) (strs l)) b (fr ++ [(9, 1, l.length)])) : ACall C lend f vs b fr k := ACall.mkStrs ys l h hv hk
theorem eqStringS.big (l m : List Str) (h : tStrs.size l ≤ 1099511627775) : eqStringS.Ret [.list none (strs l), .list none (strs m)] (.val (.bool (decide (l = m)))) [] := eqStringS.ret l m (by rw [tStrs_size] at h; omega)
end Go.Proofs.YtimcfgokocihnaaGreat
namespace Go.Proofs.YtimcfgokocihnaaGreat
namespace Abs
/-- the boxes of a tree are turned into another one's -/
def TAt (b : List ABox) (n : Nat) (X Y : Tr) (b' : List ABox) : Prop := ∃ pre post, pre.length = n ∧ b = pre ++ gb X n ++ post ∧ pre ++ gb Y n ++ post = b'
theorem TAt.more {A D A' : List ABox} {n : Nat} {X Y : Tr} (h : TAt A n X Y A') : TAt (A ++ D) n X Y (A' ++ D) := by
  obtain ⟨pre, post, h1, rfl, rfl⟩ := h
  exact ⟨pre, post ++ D, h1, by simp, by simp⟩
end Abs
end Go.Proofs.YtimcfgokocihnaaGreat
namespace Go.Proofs.YtimcfgokocihnaaGreat
open Abs
def lawExactIsRule.code : ACode := (.seq (.region false [s 1 (.box (t 0)), s 2 (.mv (.const (.bool false)))]) (.seq (.region false [s 3 (.mv (.const (.int .i64 1048576)))]) (.seq (.region false [s 7 (.load true 4 (t 1)), s 8 (.mv (t 3)), s 9 (.call 6 [(t 7), (t 8)]), s 3 (.mv (t 9))]) (.seq (.seq (.region false [s 10 (.mv (t 3)), s 11 (.bin .lss (t 10) (.const (.int .i64 0)))]) (.cond (t 11) (.seq (.region false [s 2 (.mv (.const (.bool true)))]) .ret) .skip)) (.seq (.region false [s 12 (.load true 4 (t 1)), s 13 (.call 8 [(t 12)]), s 14 (.call 7 [(t 13)]), s 4 (.mv (t 14))]) (.seq (.region false [s 15 (.load true 4 (t 1)), s 16 (.call 8 [(t 15)]), s 5 (.alloc [(.string (.mk (.mk []))), (.int .i64 (.ofNat 0)), (.slice none 0 0), (.slice none 0 0)]), ⟨none, none, (.store 4 (t 5) (t 16))⟩]) (.seq (.region false [s 17 (.load true 4 (t 5)), s 18 (.call 9 [(t 17)]), s 6 (.mv (t 18))]) (.seq (.seq (.region false [s 19 (.mv (t 6)), s 20 (.mv (t 4)), s 21 (.binb .neq (t 19) (t 20))]) (.cond (t 21) (.seq (.region false [s 2 (.mv (.const (.bool false)))]) .ret) .skip)) (.seq (.seq (.held [s 22 (.load true 4 (t 5)), s 23 (.load true 4 (t 1)), s 24 (.call 8 [(t 23)])] [s 25 (.call 10 [(t 22), (t 24)]), s 26 (.not (t 25))]) (.cond (t 26) (.seq (.region false [s 2 (.mv (.const (.bool false)))]) .ret) .skip)) (.seq (.region false [s 2 (.mv (.const (.bool true)))]) .ret))))))))))
def lawExactIsRule.keep : List Nat := [0, 1, 2, 3, 4, 5, 6]
def lawExactIsRule.res : List RRes := [.tmp 2]
theorem lawExactIsRule.ofS {mo : Bool} {args : List AV} {r : AV} (hr : isScalR r = true) (hn : Nat.ble args.length Tryz.f3.ntmps = true) (h : aCode (Kn mo Tryz.prog) lawExactIsRule.keep 0 lawExactIsRule.code (doneS lawExactIsRule.res r) ⟨argEnv 0 args, [], []⟩) : Abs.Ret mo Tryz.prog 3 args r [] :=
  Abs.Ret.of_irS hr Tryz.func3 rfl (by kernel_rfl) (Nat.le_of_ble_eq_true hn) (by kernel_rfl) (by kernel_rfl) h
abbrev lawExactIsRule.Ret (args : List AV) (r : AV) (frs : Fr) : Prop := Abs.Ret true Tryz.prog 3 args r frs
end Go.Proofs.YtimcfgokocihnaaGreat
namespace Go.Proofs.YtimcfgokocihnaaGreat
open Abs
abbrev VPattern := Str × List Str
instance : DecidableEq VPattern := instDecidableEqProd
def tPattern : Ty VPattern := Ty.pair Ty.str tStrs
theorem tPattern_size (a : VPattern) : tPattern.size a = a.1.length + tStrs.size a.2 := rfl
theorem Abs.ACall.mk_Pattern {C : Con} {lend : Bool} {f : Nat} {vs : List AV} {b : List ABox} {fr : Fr} {k : AV → List ABox → Fr → Prop} (ys : List AV) (a : VPattern) (h : C.ret f ys (.agg (tPattern.tk a 0)) (tPattern.fr a)) (hv : SeesL Sees0 vs ys)
    (hk : k (.agg (tPattern.tk a fr.length)) b (fr ++ tPattern.fr a)) : ACall C lend f vs b fr k := ACall.mkA tPattern ys a h hv hk
theorem toPattern.ret (a : VPattern) (h : tPattern.size a ≤ 1048576) : toPattern.Ret [.agg (oldL (tPattern.q a))] (.agg (tPattern.tk a 0)) (tPattern.fr a) := by
  refine toPattern.of rfl ?_
  rw [tPattern_size] at h
  have hf1 := tStrs_size a.2
  repeat' first
    | contradiction | exact trivial
    | (conv => whnf
       first | refine Need.mk (fun h => h) ?_ | refine Need.mk rfl ?_ | refine Need.mk ⟨rfl, Nat.le_of_ble_eq_true rfl⟩ ?_ | refine Need.mk (Nat.le_of_ble_eq_true rfl) ?_ | refine Need.fin ?_ | refine Need.mk ?_ ?_ | refine Ix.strsF rfl ?_ | refine Ix.strs rfl ?_ ?_ | refine Cut.strs rfl ?_ ?_ | refine Ix.mapF (fun _ => rfl) ?_ | refine Ix.map (fun _ => rfl) ?_ ?_ | refine Cut.map (fun _ => rfl) ?_ ?_ | refine Fork.yes (by assumption) ?_ | refine Fork.no (by assumption) ?_ | refine Fork.decYes (by omega) ?_ | refine Fork.decNo (by omega) ?_ | refine Fork.dec (fun _ => ?_) (fun _ => ?_) | refine Fork.bne (fun _ => ?_) (fun _ => ?_) | refine Fork.beq (fun _ => ?_) (fun _ => ?_) | refine Fork.seq (fun _ => ?_) (fun _ => ?_) | refine Fork.sne (fun _ => ?_) (fun _ => ?_) | refine Fork.neg (fun _ => ?_) (fun _ => ?_) | refine Fork.mk (fun _ => ?_) (fun _ => ?_) | refine HAlt.mk ?_ ?_ | apply HJoin.mk3 | exact HEnd.mk rfl rfl rfl | refine HEnd.mk ?_ ?_ ?_ | refine Round.mk ?_ | refine NilQ.mk (fun b hb => ?_) | refine forceK_of ?_ | refine forceBx_of ?_ | refine unG_old ?_ | refine unG_gv ?_ | refine Lit.read rfl ?_ | refine FinVal.keep ?_ | refine FinAgg.keep ?_ | refine Final.mk rfl rfl | refine Final.mk ?_ rfl | refine Final.mk ?_ ?_ | refine FinalT.mk ?_ ?_ | refine FinalC.allA ?_ | refine ACall.mk_StringS _ _ (toStringS.ret _ ?_) (by repeat' first | exact SeesL.nil | refine SeesL.cons ?_ ?_ | exact SeesB.of0 (Sees0.val _) | exact SeesB.of0 (Sees0.str _) | exact SeesB.of0 (Sees0.olds _ _) | exact SeesB.of0 (Sees0.old _) | exact SeesB.of0 (Sees0.oldagg _) | exact SeesB.of0 Sees0.nil | exact Sees0.val _ | exact Sees0.str _ | exact Sees0.olds _ _ | exact Sees0.old _ | exact Sees0.oldagg _ | exact Sees0.nil | exact SeesB.of0 (Sees0.any _) | assumption | exact sees_gv _ _ _ (by assumption) (by first | assumption | exact BoxIn.last _ _ | exact BoxIn.more (BoxIn.last _ _) _) | refine SeesB.agg ?_ | refine Sees0.agg ?_ | exact SeesB.of0 (Sees0.clo SeesL.nil SeesL.nil) | exact Sees0.clo SeesL.nil SeesL.nil | exact SeesB.of0 (Sees0.list rfl) | exact Sees0.list rfl) ?_)
    | refine AV.bool_congr ?_ | refine AV.int_congr ?_ | refine AV.str_congr ?_ | refine AV.list_congr ?_ | with_reducible rfl | refine fr1 ?_ | refine fr2 ?_ ?_
  all_goals first
    | omega
    | (refine congrArg AV.agg ?_
       repeat' first
         | refine cons_congr ?_ ?_
         | refine tok_congr ?_ ?_
         | refine congrArg (tks _ _) ?_
         | rfl
       all_goals (simp [Ty.pair, Ty.str, Ty.int, Ty.bool, Nat.add_assoc, Ty.plain, tStrs]; done))
    | (simp [tPattern, Ty.pair, Ty.str, Ty.int, Ty.bool, List.append_assoc, Nat.add_assoc, Ty.plain, tStrs]; done)
theorem szPattern.ret (f : VPattern) (a : Int) (h0 : 0 ≤ a) (ha : a ≤ 1048576) (hb : tPattern.bd f) :
    szPattern.Ret [.agg (oldL (tPattern.q f)), .val (.int .i64 a)] (.val (.int .i64 (left a (tPattern.size f)))) [] := by
  refine szPattern.of rfl ?_
  have hz := tPattern_size f
  obtain ⟨hb0, hb1⟩ := hb
  have hb0 : f.1.length ≤ 9223372036854775807 := hb0
  obtain ⟨hbl1, hbe1⟩ := hb1
  have hy1 := szT_eq f.2
  by_cases c1 : a < (f.1.length : Int)
  · have e0 : IntKind.i64.wrap (a - (f.1.length : Int)) = a - (f.1.length : Int) := by rw [wrap64 (by omega) (by omega)]
    repeat' first
      | contradiction | exact trivial
      | (conv => whnf
         first | refine Need.mk (fun h => h) ?_ | refine Need.mk rfl ?_ | refine Need.mk ⟨rfl, Nat.le_of_ble_eq_true rfl⟩ ?_ | refine Need.mk (Nat.le_of_ble_eq_true rfl) ?_ | refine Need.fin ?_ | refine Need.mk ?_ ?_ | refine Ix.strsF rfl ?_ | refine Ix.strs rfl ?_ ?_ | refine Cut.strs rfl ?_ ?_ | refine Ix.mapF (fun _ => rfl) ?_ | refine Ix.map (fun _ => rfl) ?_ ?_ | refine Cut.map (fun _ => rfl) ?_ ?_ | refine Fork.yes (by assumption) ?_ | refine Fork.no (by assumption) ?_ | refine Fork.decYes (by omega) ?_ | refine Fork.decNo (by omega) ?_ | refine Fork.dec (fun _ => ?_) (fun _ => ?_) | refine Fork.bne (fun _ => ?_) (fun _ => ?_) | refine Fork.beq (fun _ => ?_) (fun _ => ?_) | refine Fork.seq (fun _ => ?_) (fun _ => ?_) | refine Fork.sne (fun _ => ?_) (fun _ => ?_) | refine Fork.neg (fun _ => ?_) (fun _ => ?_) | refine Fork.mk (fun _ => ?_) (fun _ => ?_) | refine HAlt.mk ?_ ?_ | apply HJoin.mk3 | exact HEnd.mk rfl rfl rfl | refine HEnd.mk ?_ ?_ ?_ | refine Round.mk ?_ | refine NilQ.mk (fun b hb => ?_) | refine forceK_of ?_ | refine forceBx_of ?_ | refine unG_old ?_ | refine unG_gv ?_ | refine Lit.read rfl ?_ | refine FinVal.keep ?_ | refine FinAgg.keep ?_ | refine Final.mk rfl rfl | refine Final.mk ?_ rfl | refine Final.mk ?_ ?_ | refine FinalT.mk ?_ ?_ | refine FinalC.allA ?_ | refine ACall.scalA _ _ (szStringS.ret _ _ ?_ ?_ ?_ ?_) rfl ?_ | refine AQCall.mkA _ _ (fun hg => szStringS.ret _ _ ?_ ?_ ?_ ?_) rfl ?_ | refine AGCall.mkA _ _ (fun hg => szStringS.ret _ _ ?_ ?_ ?_ ?_) rfl ?_)
      | refine AV.bool_congr ?_ | refine AV.int_congr ?_ | refine AV.str_congr ?_ | refine AV.list_congr ?_ | with_reducible rfl | refine fr1 ?_ | refine fr2 ?_ ?_
    all_goals first
      | assumption
      | omega
      | exact left_eq (by omega)
  by_cases c2 : a < (f.1.length : Int) + (szT f.2 : Int)
  · have e0 : IntKind.i64.wrap (a - (f.1.length : Int)) = a - (f.1.length : Int) := by rw [wrap64 (by omega) (by omega)]
    have e1 : left (IntKind.i64.wrap (a - (f.1.length : Int))) (szT f.2) = -1 := by rw [e0, left, if_pos (by omega)]
    repeat' first
      | contradiction | exact trivial
      | (conv => whnf
         first | refine Need.mk (fun h => h) ?_ | refine Need.mk rfl ?_ | refine Need.mk ⟨rfl, Nat.le_of_ble_eq_true rfl⟩ ?_ | refine Need.mk (Nat.le_of_ble_eq_true rfl) ?_ | refine Need.fin ?_ | refine Need.mk ?_ ?_ | refine Ix.strsF rfl ?_ | refine Ix.strs rfl ?_ ?_ | refine Cut.strs rfl ?_ ?_ | refine Ix.mapF (fun _ => rfl) ?_ | refine Ix.map (fun _ => rfl) ?_ ?_ | refine Cut.map (fun _ => rfl) ?_ ?_ | refine Fork.yes (by assumption) ?_ | refine Fork.no (by assumption) ?_ | refine Fork.decYes (by omega) ?_ | refine Fork.decNo (by omega) ?_ | refine Fork.dec (fun _ => ?_) (fun _ => ?_) | refine Fork.bne (fun _ => ?_) (fun _ => ?_) | refine Fork.beq (fun _ => ?_) (fun _ => ?_) | refine Fork.seq (fun _ => ?_) (fun _ => ?_) | refine Fork.sne (fun _ => ?_) (fun _ => ?_) | refine Fork.neg (fun _ => ?_) (fun _ => ?_) | refine Fork.mk (fun _ => ?_) (fun _ => ?_) | refine HAlt.mk ?_ ?_ | apply HJoin.mk3 | exact HEnd.mk rfl rfl rfl | refine HEnd.mk ?_ ?_ ?_ | refine Round.mk ?_ | refine NilQ.mk (fun b hb => ?_) | refine forceK_of ?_ | refine forceBx_of ?_ | refine unG_old ?_ | refine unG_gv ?_ | refine Lit.read rfl ?_ | refine FinVal.keep ?_ | refine FinAgg.keep ?_ | refine Final.mk rfl rfl | refine Final.mk ?_ rfl | refine Final.mk ?_ ?_ | refine FinalT.mk ?_ ?_ | refine FinalC.allA ?_ | refine ACall.scalA _ _ (szStringS.ret _ _ ?_ ?_ ?_ ?_) rfl ?_ | refine AQCall.mkA _ _ (fun hg => szStringS.ret _ _ ?_ ?_ ?_ ?_) rfl ?_ | refine AGCall.mkA _ _ (fun hg => szStringS.ret _ _ ?_ ?_ ?_ ?_) rfl ?_)
      | refine AV.bool_congr ?_ | refine AV.int_congr ?_ | refine AV.str_congr ?_ | refine AV.list_congr ?_ | with_reducible rfl | refine fr1 ?_ | refine fr2 ?_ ?_
    all_goals first
      | assumption
      | omega
      | exact left_eq (by omega)
  have e0 : IntKind.i64.wrap (a - (f.1.length : Int)) = a - (f.1.length : Int) := by rw [wrap64 (by omega) (by omega)]
  have e1 : left (IntKind.i64.wrap (a - (f.1.length : Int))) (szT f.2) = a - (f.1.length : Int) - (szT f.2 : Int) := by rw [e0, left, if_neg (by omega)]
  repeat' first
    | contradiction | exact trivial
    | (conv => whnf
       first | refine Need.mk (fun h => h) ?_ | refine Need.mk rfl ?_ | refine Need.mk ⟨rfl, Nat.le_of_ble_eq_true rfl⟩ ?_ | refine Need.mk (Nat.le_of_ble_eq_true rfl) ?_ | refine Need.fin ?_ | refine Need.mk ?_ ?_ | refine Ix.strsF rfl ?_ | refine Ix.strs rfl ?_ ?_ | refine Cut.strs rfl ?_ ?_ | refine Ix.mapF (fun _ => rfl) ?_ | refine Ix.map (fun _ => rfl) ?_ ?_ | refine Cut.map (fun _ => rfl) ?_ ?_ | refine Fork.yes (by assumption) ?_ | refine Fork.no (by assumption) ?_ | refine Fork.decYes (by omega) ?_ | refine Fork.decNo (by omega) ?_ | refine Fork.dec (fun _ => ?_) (fun _ => ?_) | refine Fork.bne (fun _ => ?_) (fun _ => ?_) | refine Fork.beq (fun _ => ?_) (fun _ => ?_) | refine Fork.seq (fun _ => ?_) (fun _ => ?_) | refine Fork.sne (fun _ => ?_) (fun _ => ?_) | refine Fork.neg (fun _ => ?_) (fun _ => ?_) | refine Fork.mk (fun _ => ?_) (fun _ => ?_) | refine HAlt.mk ?_ ?_ | apply HJoin.mk3 | exact HEnd.mk rfl rfl rfl | refine HEnd.mk ?_ ?_ ?_ | refine Round.mk ?_ | refine NilQ.mk (fun b hb => ?_) | refine forceK_of ?_ | refine forceBx_of ?_ | refine unG_old ?_ | refine unG_gv ?_ | refine Lit.read rfl ?_ | refine FinVal.keep ?_ | refine FinAgg.keep ?_ | refine Final.mk rfl rfl | refine Final.mk ?_ rfl | refine Final.mk ?_ ?_ | refine FinalT.mk ?_ ?_ | refine FinalC.allA ?_ | refine ACall.scalA _ _ (szStringS.ret _ _ ?_ ?_ ?_ ?_) rfl ?_ | refine AQCall.mkA _ _ (fun hg => szStringS.ret _ _ ?_ ?_ ?_ ?_) rfl ?_ | refine AGCall.mkA _ _ (fun hg => szStringS.ret _ _ ?_ ?_ ?_ ?_) rfl ?_)
    | refine AV.bool_congr ?_ | refine AV.int_congr ?_ | refine AV.str_congr ?_ | refine AV.list_congr ?_ | with_reducible rfl | refine fr1 ?_ | refine fr2 ?_ ?_
  all_goals first
    | assumption
    | omega
    | exact left_eq (by omega)
theorem eqPattern.big (f g : VPattern) (h : tPattern.size f ≤ 1099511627775) : eqPattern.Ret [.agg (oldL (tPattern.q f)), .agg (oldL (tPattern.q g))] (.val (.bool (decide (f = g)))) [] := by
  refine eqPattern.of rfl ?_
  have hz := tPattern_size f
  repeat' first
    | contradiction | exact trivial
    | (conv => whnf
       first | refine Need.mk (fun h => h) ?_ | refine Need.mk rfl ?_ | refine Need.mk ⟨rfl, Nat.le_of_ble_eq_true rfl⟩ ?_ | refine Need.mk (Nat.le_of_ble_eq_true rfl) ?_ | refine Need.fin ?_ | refine Need.mk ?_ ?_ | refine Ix.strsF rfl ?_ | refine Ix.strs rfl ?_ ?_ | refine Cut.strs rfl ?_ ?_ | refine Ix.mapF (fun _ => rfl) ?_ | refine Ix.map (fun _ => rfl) ?_ ?_ | refine Cut.map (fun _ => rfl) ?_ ?_ | refine Fork.yes (by assumption) ?_ | refine Fork.no (by assumption) ?_ | refine Fork.decYes (by omega) ?_ | refine Fork.decNo (by omega) ?_ | refine Fork.dec (fun _ => ?_) (fun _ => ?_) | refine Fork.bne (fun _ => ?_) (fun _ => ?_) | refine Fork.beq (fun _ => ?_) (fun _ => ?_) | refine Fork.seq (fun _ => ?_) (fun _ => ?_) | refine Fork.sne (fun _ => ?_) (fun _ => ?_) | refine Fork.neg (fun _ => ?_) (fun _ => ?_) | refine Fork.mk (fun _ => ?_) (fun _ => ?_) | refine HAlt.mk ?_ ?_ | apply HJoin.mk3 | exact HEnd.mk rfl rfl rfl | refine HEnd.mk ?_ ?_ ?_ | refine Round.mk ?_ | refine NilQ.mk (fun b hb => ?_) | refine forceK_of ?_ | refine forceBx_of ?_ | refine unG_old ?_ | refine unG_gv ?_ | refine Lit.read rfl ?_ | refine FinVal.keep ?_ | refine FinAgg.keep ?_ | refine Final.mk rfl rfl | refine Final.mk ?_ rfl | refine Final.mk ?_ ?_ | refine FinalT.mk ?_ ?_ | refine FinalC.allA ?_ | refine ACall.scalA _ _ (eqStringS.big _ _ ?_) rfl ?_ | refine AQCall.mkA _ _ (fun hg => eqStringS.big _ _ ?_) rfl ?_ | refine AGCall.mkA _ _ (fun hg => eqStringS.big _ _ ?_) rfl ?_)
    | refine AV.bool_congr ?_ | refine AV.int_congr ?_ | refine AV.str_congr ?_ | refine AV.list_congr ?_ | with_reducible rfl | refine fr1 ?_ | refine fr2 ?_ ?_
  all_goals first
    | omega
    | (simp only [tStrs_size, tInts_size] at *; omega)
    | (obtain ⟨x0, x1⟩ := f; obtain ⟨y0, y1⟩ := g; simp_all)
end Go.Proofs.YtimcfgokocihnaaGreat
namespace Go.Proofs.YtimcfgokocihnaaGreat
open Abs
abbrev VCond := Int × VPattern × Str × Str
instance : DecidableEq VCond := instDecidableEqProd
def tCond : Ty VCond := Ty.pair Ty.int (Ty.pair tPattern (Ty.pair Ty.str Ty.str))
theorem tCond_size (a : VCond) : tCond.size a = 0 + (tPattern.size a.2.1 + (a.2.2.1.length + a.2.2.2.length)) := rfl
def tConds : Ty (List VCond) := Ty.list 51 tCond
theorem tConds_sz (l : List VCond) : tConds.size l = l.length + listSize tCond l := rfl
theorem tCond_get {l : List VCond} {i : Nat} (hi : i < l.length) : l[i]? = some (l.getD i default) := by simp [List.getD, hi]
theorem tCond_le {l : List VCond} {i : Nat} (hi : i < l.length) : tCond.size (l.getD i default) ≤ listSize tCond l := listSize_mem tCond (List.mem_of_getElem? (tCond_get hi))
theorem Abs.ACall.mk_Cond {C : Con} {lend : Bool} {f : Nat} {vs : List AV} {b : List ABox} {fr : Fr} {k : AV → List ABox → Fr → Prop} (ys : List AV) (a : VCond) (h : C.ret f ys (.agg (tCond.tk a 0)) (tCond.fr a)) (hv : SeesL Sees0 vs ys)
    (hk : k (.agg (tCond.tk a fr.length)) b (fr ++ tCond.fr a)) : ACall C lend f vs b fr k := ACall.mkA tCond ys a h hv hk
theorem Abs.ACall.mk_CondS {C : Con} {lend : Bool} {f : Nat} {vs : List AV} {b : List ABox} {fr : Fr} {k : AV → List ABox → Fr → Prop} (ys : List AV) (l : List VCond) (h : C.ret f ys (.list (some (0 + (frs tCond l).length)) (tks tCond l 0)) (tConds.fr l)) (hv : SeesL Sees0 vs ys)
    (hk : k (.list (some (fr.length + (frs tCond l).length)) (tks tCond l fr.length)) b (fr ++ tConds.fr l)) : ACall C lend f vs b fr k :=
  ACall.mkV tConds ys l (fun n => .list (some (n + (frs tCond l).length)) (tks tCond l n)) (fun _ => rfl) h hv hk
theorem toCond.ret (a : VCond) (h : tCond.size a ≤ 1048576) : toCond.Ret [.agg (oldL (tCond.q a))] (.agg (tCond.tk a 0)) (tCond.fr a) := by
  refine toCond.of rfl ?_
  rw [tCond_size] at h
  repeat' first
    | contradiction | exact trivial
    | (conv => whnf
       first | refine Need.mk (fun h => h) ?_ | refine Need.mk rfl ?_ | refine Need.mk ⟨rfl, Nat.le_of_ble_eq_true rfl⟩ ?_ | refine Need.mk (Nat.le_of_ble_eq_true rfl) ?_ | refine Need.fin ?_ | refine Need.mk ?_ ?_ | refine Ix.strsF rfl ?_ | refine Ix.strs rfl ?_ ?_ | refine Cut.strs rfl ?_ ?_ | refine Ix.mapF (fun _ => rfl) ?_ | refine Ix.map (fun _ => rfl) ?_ ?_ | refine Cut.map (fun _ => rfl) ?_ ?_ | refine Fork.yes (by assumption) ?_ | refine Fork.no (by assumption) ?_ | refine Fork.decYes (by omega) ?_ | refine Fork.decNo (by omega) ?_ | refine Fork.dec (fun _ => ?_) (fun _ => ?_) | refine Fork.bne (fun _ => ?_) (fun _ => ?_) | refine Fork.beq (fun _ => ?_) (fun _ => ?_) | refine Fork.seq (fun _ => ?_) (fun _ => ?_) | refine Fork.sne (fun _ => ?_) (fun _ => ?_) | refine Fork.neg (fun _ => ?_) (fun _ => ?_) | refine Fork.mk (fun _ => ?_) (fun _ => ?_) | refine HAlt.mk ?_ ?_ | apply HJoin.mk3 | exact HEnd.mk rfl rfl rfl | refine HEnd.mk ?_ ?_ ?_ | refine Round.mk ?_ | refine NilQ.mk (fun b hb => ?_) | refine forceK_of ?_ | refine forceBx_of ?_ | refine unG_old ?_ | refine unG_gv ?_ | refine Lit.read rfl ?_ | refine FinVal.keep ?_ | refine FinAgg.keep ?_ | refine Final.mk rfl rfl | refine Final.mk ?_ rfl | refine Final.mk ?_ ?_ | refine FinalT.mk ?_ ?_ | refine FinalC.allA ?_ | refine ACall.mk_Pattern _ _ (toPattern.ret _ ?_) (by repeat' first | exact SeesL.nil | refine SeesL.cons ?_ ?_ | exact SeesB.of0 (Sees0.val _) | exact SeesB.of0 (Sees0.str _) | exact SeesB.of0 (Sees0.olds _ _) | exact SeesB.of0 (Sees0.old _) | exact SeesB.of0 (Sees0.oldagg _) | exact SeesB.of0 Sees0.nil | exact Sees0.val _ | exact Sees0.str _ | exact Sees0.olds _ _ | exact Sees0.old _ | exact Sees0.oldagg _ | exact Sees0.nil | exact SeesB.of0 (Sees0.any _) | assumption | exact sees_gv _ _ _ (by assumption) (by first | assumption | exact BoxIn.last _ _ | exact BoxIn.more (BoxIn.last _ _) _) | refine SeesB.agg ?_ | refine Sees0.agg ?_ | exact SeesB.of0 (Sees0.clo SeesL.nil SeesL.nil) | exact Sees0.clo SeesL.nil SeesL.nil | exact SeesB.of0 (Sees0.list rfl) | exact Sees0.list rfl) ?_)
    | refine AV.bool_congr ?_ | refine AV.int_congr ?_ | refine AV.str_congr ?_ | refine AV.list_congr ?_ | with_reducible rfl | refine fr1 ?_ | refine fr2 ?_ ?_
  all_goals first
    | omega
    | (refine congrArg AV.agg ?_
       repeat' first
         | refine cons_congr ?_ ?_
         | refine tok_congr ?_ ?_
         | refine congrArg (tks _ _) ?_
         | rfl
       all_goals (simp [Ty.pair, Ty.str, Ty.int, Ty.bool, Nat.add_assoc]; done))
    | (simp [tCond, Ty.pair, Ty.str, Ty.int, Ty.bool, List.append_assoc, Nat.add_assoc]; done)
theorem szCond.ret (f : VCond) (a : Int) (h0 : 0 ≤ a) (ha : a ≤ 1048576) (hb : tCond.bd f) :
    szCond.Ret [.agg (oldL (tCond.q f)), .val (.int .i64 a)] (.val (.int .i64 (left a (tCond.size f)))) [] := by
  refine szCond.of rfl ?_
  have hz := tCond_size f
  obtain ⟨hb0, hb1, hb2, hb3⟩ := hb
  have hb2 : f.2.2.1.length ≤ 9223372036854775807 := hb2
  have hb3 : f.2.2.2.length ≤ 9223372036854775807 := hb3
  by_cases c1 : a < (tPattern.size f.2.1 : Int)
  · have e0 : left a (tPattern.size f.2.1) = -1 := by rw [left, if_pos (by omega)]
    repeat' first
      | contradiction | exact trivial
      | (conv => whnf
         first | refine Need.mk (fun h => h) ?_ | refine Need.mk rfl ?_ | refine Need.mk ⟨rfl, Nat.le_of_ble_eq_true rfl⟩ ?_ | refine Need.mk (Nat.le_of_ble_eq_true rfl) ?_ | refine Need.fin ?_ | refine Need.mk ?_ ?_ | refine Ix.strsF rfl ?_ | refine Ix.strs rfl ?_ ?_ | refine Cut.strs rfl ?_ ?_ | refine Ix.mapF (fun _ => rfl) ?_ | refine Ix.map (fun _ => rfl) ?_ ?_ | refine Cut.map (fun _ => rfl) ?_ ?_ | refine Fork.yes (by assumption) ?_ | refine Fork.no (by assumption) ?_ | refine Fork.decYes (by omega) ?_ | refine Fork.decNo (by omega) ?_ | refine Fork.dec (fun _ => ?_) (fun _ => ?_) | refine Fork.bne (fun _ => ?_) (fun _ => ?_) | refine Fork.beq (fun _ => ?_) (fun _ => ?_) | refine Fork.seq (fun _ => ?_) (fun _ => ?_) | refine Fork.sne (fun _ => ?_) (fun _ => ?_) | refine Fork.neg (fun _ => ?_) (fun _ => ?_) | refine Fork.mk (fun _ => ?_) (fun _ => ?_) | refine HAlt.mk ?_ ?_ | apply HJoin.mk3 | exact HEnd.mk rfl rfl rfl | refine HEnd.mk ?_ ?_ ?_ | refine Round.mk ?_ | refine NilQ.mk (fun b hb => ?_) | refine forceK_of ?_ | refine forceBx_of ?_ | refine unG_old ?_ | refine unG_gv ?_ | refine Lit.read rfl ?_ | refine FinVal.keep ?_ | refine FinAgg.keep ?_ | refine Final.mk rfl rfl | refine Final.mk ?_ rfl | refine Final.mk ?_ ?_ | refine FinalT.mk ?_ ?_ | refine FinalC.allA ?_ | refine ACall.scalA _ _ (szPattern.ret _ _ ?_ ?_ ?_) rfl ?_ | refine AQCall.mkA _ _ (fun hg => szPattern.ret _ _ ?_ ?_ ?_) rfl ?_ | refine AGCall.mkA _ _ (fun hg => szPattern.ret _ _ ?_ ?_ ?_) rfl ?_)
      | refine AV.bool_congr ?_ | refine AV.int_congr ?_ | refine AV.str_congr ?_ | refine AV.list_congr ?_ | with_reducible rfl | refine fr1 ?_ | refine fr2 ?_ ?_
    all_goals first
      | assumption
      | omega
      | exact left_eq (by omega)
  by_cases c2 : a < (tPattern.size f.2.1 : Int) + (f.2.2.1.length : Int)
  · have e0 : left a (tPattern.size f.2.1) = a - (tPattern.size f.2.1 : Int) := by rw [left, if_neg (by omega)]
    have e1 : IntKind.i64.wrap (left a (tPattern.size f.2.1) - (f.2.2.1.length : Int)) = a - (tPattern.size f.2.1 : Int) - (f.2.2.1.length : Int) := by rw [e0, wrap64 (by omega) (by omega)]
    repeat' first
      | contradiction | exact trivial
      | (conv => whnf
         first | refine Need.mk (fun h => h) ?_ | refine Need.mk rfl ?_ | refine Need.mk ⟨rfl, Nat.le_of_ble_eq_true rfl⟩ ?_ | refine Need.mk (Nat.le_of_ble_eq_true rfl) ?_ | refine Need.fin ?_ | refine Need.mk ?_ ?_ | refine Ix.strsF rfl ?_ | refine Ix.strs rfl ?_ ?_ | refine Cut.strs rfl ?_ ?_ | refine Ix.mapF (fun _ => rfl) ?_ | refine Ix.map (fun _ => rfl) ?_ ?_ | refine Cut.map (fun _ => rfl) ?_ ?_ | refine Fork.yes (by assumption) ?_ | refine Fork.no (by assumption) ?_ | refine Fork.decYes (by omega) ?_ | refine Fork.decNo (by omega) ?_ | refine Fork.dec (fun _ => ?_) (fun _ => ?_) | refine Fork.bne (fun _ => ?_) (fun _ => ?_) | refine Fork.beq (fun _ => ?_) (fun _ => ?_) | refine Fork.seq (fun _ => ?_) (fun _ => ?_) | refine Fork.sne (fun _ => ?_) (fun _ => ?_) | refine Fork.neg (fun _ => ?_) (fun _ => ?_) | refine Fork.mk (fun _ => ?_) (fun _ => ?_) | refine HAlt.mk ?_ ?_ | apply HJoin.mk3 | exact HEnd.mk rfl rfl rfl | refine HEnd.mk ?_ ?_ ?_ | refine Round.mk ?_ | refine NilQ.mk (fun b hb => ?_) | refine forceK_of ?_ | refine forceBx_of ?_ | refine unG_old ?_ | refine unG_gv ?_ | refine Lit.read rfl ?_ | refine FinVal.keep ?_ | refine FinAgg.keep ?_ | refine Final.mk rfl rfl | refine Final.mk ?_ rfl | refine Final.mk ?_ ?_ | refine FinalT.mk ?_ ?_ | refine FinalC.allA ?_ | refine ACall.scalA _ _ (szPattern.ret _ _ ?_ ?_ ?_) rfl ?_ | refine AQCall.mkA _ _ (fun hg => szPattern.ret _ _ ?_ ?_ ?_) rfl ?_ | refine AGCall.mkA _ _ (fun hg => szPattern.ret _ _ ?_ ?_ ?_) rfl ?_)
      | refine AV.bool_congr ?_ | refine AV.int_congr ?_ | refine AV.str_congr ?_ | refine AV.list_congr ?_ | with_reducible rfl | refine fr1 ?_ | refine fr2 ?_ ?_
    all_goals first
      | assumption
      | omega
      | exact left_eq (by omega)
  by_cases c3 : a < (tPattern.size f.2.1 : Int) + (f.2.2.1.length : Int) + (f.2.2.2.length : Int)
  · have e0 : left a (tPattern.size f.2.1) = a - (tPattern.size f.2.1 : Int) := by rw [left, if_neg (by omega)]
    have e1 : IntKind.i64.wrap (left a (tPattern.size f.2.1) - (f.2.2.1.length : Int)) = a - (tPattern.size f.2.1 : Int) - (f.2.2.1.length : Int) := by rw [e0, wrap64 (by omega) (by omega)]
    have e2 : IntKind.i64.wrap (IntKind.i64.wrap (left a (tPattern.size f.2.1) - (f.2.2.1.length : Int)) - (f.2.2.2.length : Int)) = a - (tPattern.size f.2.1 : Int) - (f.2.2.1.length : Int) - (f.2.2.2.length : Int) := by rw [e1, wrap64 (by omega) (by omega)]
    repeat' first
      | contradiction | exact trivial
      | (conv => whnf
         first | refine Need.mk (fun h => h) ?_ | refine Need.mk rfl ?_ | refine Need.mk ⟨rfl, Nat.le_of_ble_eq_true rfl⟩ ?_ | refine Need.mk (Nat.le_of_ble_eq_true rfl) ?_ | refine Need.fin ?_ | refine Need.mk ?_ ?_ | refine Ix.strsF rfl ?_ | refine Ix.strs rfl ?_ ?_ | refine Cut.strs rfl ?_ ?_ | refine Ix.mapF (fun _ => rfl) ?_ | refine Ix.map (fun _ => rfl) ?_ ?_ | refine Cut.map (fun _ => rfl) ?_ ?_ | refine Fork.yes (by assumption) ?_ | refine Fork.no (by assumption) ?_ | refine Fork.decYes (by omega) ?_ | refine Fork.decNo (by omega) ?_ | refine Fork.dec (fun _ => ?_) (fun _ => ?_) | refine Fork.bne (fun _ => ?_) (fun _ => ?_) | refine Fork.beq (fun _ => ?_) (fun _ => ?_) | refine Fork.seq (fun _ => ?_) (fun _ => ?_) | refine Fork.sne (fun _ => ?_) (fun _ => ?_) | refine Fork.neg (fun _ => ?_) (fun _ => ?_) | refine Fork.mk (fun _ => ?_) (fun _ => ?_) | refine HAlt.mk ?_ ?_ | apply HJoin.mk3 | exact HEnd.mk rfl rfl rfl | refine HEnd.mk ?_ ?_ ?_ | refine Round.mk ?_ | refine NilQ.mk (fun b hb => ?_) | refine forceK_of ?_ | refine forceBx_of ?_ | refine unG_old ?_ | refine unG_gv ?_ | refine Lit.read rfl ?_ | refine FinVal.keep ?_ | refine FinAgg.keep ?_ | refine Final.mk rfl rfl | refine Final.mk ?_ rfl | refine Final.mk ?_ ?_ | refine FinalT.mk ?_ ?_ | refine FinalC.allA ?_ | refine ACall.scalA _ _ (szPattern.ret _ _ ?_ ?_ ?_) rfl ?_ | refine AQCall.mkA _ _ (fun hg => szPattern.ret _ _ ?_ ?_ ?_) rfl ?_ | refine AGCall.mkA _ _ (fun hg => szPattern.ret _ _ ?_ ?_ ?_) rfl ?_)
      | refine AV.bool_congr ?_ | refine AV.int_congr ?_ | refine AV.str_congr ?_ | refine AV.list_congr ?_ | with_reducible rfl | refine fr1 ?_ | refine fr2 ?_ ?_
    all_goals first
      | assumption
      | omega
      | exact left_eq (by omega)
  have e0 : left a (tPattern.size f.2.1) = a - (tPattern.size f.2.1 : Int) := by rw [left, if_neg (by omega)]
  have e1 : IntKind.i64.wrap (left a (tPattern.size f.2.1) - (f.2.2.1.length : Int)) = a - (tPattern.size f.2.1 : Int) - (f.2.2.1.length : Int) := by rw [e0, wrap64 (by omega) (by omega)]
  have e2 : IntKind.i64.wrap (IntKind.i64.wrap (left a (tPattern.size f.2.1) - (f.2.2.1.length : Int)) - (f.2.2.2.length : Int)) = a - (tPattern.size f.2.1 : Int) - (f.2.2.1.length : Int) - (f.2.2.2.length : Int) := by rw [e1, wrap64 (by omega) (by omega)]
  repeat' first
    | contradiction | exact trivial
    | (conv => whnf
       first | refine Need.mk (fun h => h) ?_ | refine Need.mk rfl ?_ | refine Need.mk ⟨rfl, Nat.le_of_ble_eq_true rfl⟩ ?_ | refine Need.mk (Nat.le_of_ble_eq_true rfl) ?_ | refine Need.fin ?_ | refine Need.mk ?_ ?_ | refine Ix.strsF rfl ?_ | refine Ix.strs rfl ?_ ?_ | refine Cut.strs rfl ?_ ?_ | refine Ix.mapF (fun _ => rfl) ?_ | refine Ix.map (fun _ => rfl) ?_ ?_ | refine Cut.map (fun _ => rfl) ?_ ?_ | refine Fork.yes (by assumption) ?_ | refine Fork.no (by assumption) ?_ | refine Fork.decYes (by omega) ?_ | refine Fork.decNo (by omega) ?_ | refine Fork.dec (fun _ => ?_) (fun _ => ?_) | refine Fork.bne (fun _ => ?_) (fun _ => ?_) | refine Fork.beq (fun _ => ?_) (fun _ => ?_) | refine Fork.seq (fun _ => ?_) (fun _ => ?_) | refine Fork.sne (fun _ => ?_) (fun _ => ?_) | refine Fork.neg (fun _ => ?_) (fun _ => ?_) | refine Fork.mk (fun _ => ?_) (fun _ => ?_) | refine HAlt.mk ?_ ?_ | apply HJoin.mk3 | exact HEnd.mk rfl rfl rfl | refine HEnd.mk ?_ ?_ ?_ | refine Round.mk ?_ | refine NilQ.mk (fun b hb => ?_) | refine forceK_of ?_ | refine forceBx_of ?_ | refine unG_old ?_ | refine unG_gv ?_ | refine Lit.read rfl ?_ | refine FinVal.keep ?_ | refine FinAgg.keep ?_ | refine Final.mk rfl rfl | refine Final.mk ?_ rfl | refine Final.mk ?_ ?_ | refine FinalT.mk ?_ ?_ | refine FinalC.allA ?_ | refine ACall.scalA _ _ (szPattern.ret _ _ ?_ ?_ ?_) rfl ?_ | refine AQCall.mkA _ _ (fun hg => szPattern.ret _ _ ?_ ?_ ?_) rfl ?_ | refine AGCall.mkA _ _ (fun hg => szPattern.ret _ _ ?_ ?_ ?_) rfl ?_)
    | refine AV.bool_congr ?_ | refine AV.int_congr ?_ | refine AV.str_congr ?_ | refine AV.list_congr ?_ | with_reducible rfl | refine fr1 ?_ | refine fr2 ?_ ?_
  all_goals first
    | assumption
    | omega
    | exact left_eq (by omega)
theorem eqCond.big (f g : VCond) (h : tCond.size f ≤ 1099511627775) : eqCond.Ret [.agg (oldL (tCond.q f)), .agg (oldL (tCond.q g))] (.val (.bool (decide (f = g)))) [] := by
  refine eqCond.of rfl ?_
  have hz := tCond_size f
  repeat' first
    | contradiction | exact trivial
    | (conv => whnf
       first | refine Need.mk (fun h => h) ?_ | refine Need.mk rfl ?_ | refine Need.mk ⟨rfl, Nat.le_of_ble_eq_true rfl⟩ ?_ | refine Need.mk (Nat.le_of_ble_eq_true rfl) ?_ | refine Need.fin ?_ | refine Need.mk ?_ ?_ | refine Ix.strsF rfl ?_ | refine Ix.strs rfl ?_ ?_ | refine Cut.strs rfl ?_ ?_ | refine Ix.mapF (fun _ => rfl) ?_ | refine Ix.map (fun _ => rfl) ?_ ?_ | refine Cut.map (fun _ => rfl) ?_ ?_ | refine Fork.yes (by assumption) ?_ | refine Fork.no (by assumption) ?_ | refine Fork.decYes (by omega) ?_ | refine Fork.decNo (by omega) ?_ | refine Fork.dec (fun _ => ?_) (fun _ => ?_) | refine Fork.bne (fun _ => ?_) (fun _ => ?_) | refine Fork.beq (fun _ => ?_) (fun _ => ?_) | refine Fork.seq (fun _ => ?_) (fun _ => ?_) | refine Fork.sne (fun _ => ?_) (fun _ => ?_) | refine Fork.neg (fun _ => ?_) (fun _ => ?_) | refine Fork.mk (fun _ => ?_) (fun _ => ?_) | refine HAlt.mk ?_ ?_ | apply HJoin.mk3 | exact HEnd.mk rfl rfl rfl | refine HEnd.mk ?_ ?_ ?_ | refine Round.mk ?_ | refine NilQ.mk (fun b hb => ?_) | refine forceK_of ?_ | refine forceBx_of ?_ | refine unG_old ?_ | refine unG_gv ?_ | refine Lit.read rfl ?_ | refine FinVal.keep ?_ | refine FinAgg.keep ?_ | refine Final.mk rfl rfl | refine Final.mk ?_ rfl | refine Final.mk ?_ ?_ | refine FinalT.mk ?_ ?_ | refine FinalC.allA ?_ | refine ACall.scalA _ _ (eqPattern.big _ _ ?_) rfl ?_ | refine AQCall.mkA _ _ (fun hg => eqPattern.big _ _ ?_) rfl ?_ | refine AGCall.mkA _ _ (fun hg => eqPattern.big _ _ ?_) rfl ?_)
    | refine AV.bool_congr ?_ | refine AV.int_congr ?_ | refine AV.str_congr ?_ | refine AV.list_congr ?_ | with_reducible rfl | refine fr1 ?_ | refine fr2 ?_ ?_
  all_goals first
    | omega
    | (simp only [tStrs_size, tInts_size] at *; omega)
    | (obtain ⟨x0, ⟨x10, x11⟩, x2, x3⟩ := f; obtain ⟨y0, ⟨y10, y11⟩, y2, y3⟩ := g; simp_all)
theorem toCondS.ret (l : List VCond) (h : tConds.size l ≤ 1048576) : toCondS.Ret [.list none (rows tCond l)] (.list (some (0 + (frs tCond l).length)) (tks tCond l 0)) (tConds.fr l) := by
  refine toCondS.of rfl ?_
  rw [tConds_sz] at h
  repeat' first
    | contradiction | exact trivial
    | (conv => whnf
       first | refine Need.mk (fun h => h) ?_ | refine Need.mk rfl ?_ | refine Need.mk ⟨rfl, Nat.le_of_ble_eq_true rfl⟩ ?_ | refine Need.mk (Nat.le_of_ble_eq_true rfl) ?_ | refine Need.fin ?_ | refine Need.mk ?_ ?_ | refine Ix.strsF rfl ?_ | refine Ix.strs rfl ?_ ?_ | refine Cut.strs rfl ?_ ?_ | refine Ix.mapF (fun _ => rfl) ?_ | refine Ix.map (fun _ => rfl) ?_ ?_ | refine Cut.map (fun _ => rfl) ?_ ?_ | refine Fork.yes (by assumption) ?_ | refine Fork.no (by assumption) ?_ | refine Fork.decYes (by omega) ?_ | refine Fork.decNo (by omega) ?_ | refine Fork.dec (fun _ => ?_) (fun _ => ?_) | refine Fork.bne (fun _ => ?_) (fun _ => ?_) | refine Fork.beq (fun _ => ?_) (fun _ => ?_) | refine Fork.seq (fun _ => ?_) (fun _ => ?_) | refine Fork.sne (fun _ => ?_) (fun _ => ?_) | refine Fork.neg (fun _ => ?_) (fun _ => ?_) | refine Fork.mk (fun _ => ?_) (fun _ => ?_) | refine HAlt.mk ?_ ?_ | apply HJoin.mk3 | exact HEnd.mk rfl rfl rfl | refine HEnd.mk ?_ ?_ ?_ | refine Round.mk ?_ | refine NilQ.mk (fun b hb => ?_) | refine forceK_of ?_ | refine forceBx_of ?_ | refine unG_old ?_ | refine unG_gv ?_ | refine Lit.read rfl ?_ | refine FinVal.keep ?_ | refine FinAgg.keep ?_ | refine Final.mk rfl rfl | refine Final.mk ?_ rfl | refine Final.mk ?_ ?_ | refine FinalT.mk ?_ ?_ | refine FinalC.allA ?_)
    | refine AV.bool_congr ?_ | refine AV.int_congr ?_ | refine AV.str_congr ?_ | refine AV.list_congr ?_ | with_reducible rfl | refine fr1 ?_ | refine fr2 ?_ ?_
  refine ALoop.mk Nat (fun i => ⟨[(0, .list none (rows tCond l)), (3, .bsl 0 l.length), (4, .val (.int .i64 i))], [.cells (.row 51 5) (part [.val (.int .i64 0), .str [], .val (.slice none 0 0), .str [], .str []] (tks tCond l 0) i)], frs tCond (l.take i)⟩) (fun i => i ≤ l.length) (fun i => l.length - i) ⟨0, Nat.zero_le _, ?_⟩ (fun i hi => ?_)
  · repeat' first
      | exact trivial | refine Weak.mk ?_ ?_ ?_ ?_ (Or.inl (Nat.le_of_ble_eq_true rfl)) | refine Weak.mk ?_ ?_ ?_ ?_ (Or.inr ⟨(by repeat' first | exact trivial | exact Nat.le_of_ble_eq_true rfl | refine And.intro ?_ ?_), (by repeat' first | exact trivial | exact Nat.le_of_ble_eq_true rfl | refine And.intro ?_ ?_)⟩) | refine Weak.mk ?_ ?_ ?_ ?_ ?_ | refine And.intro ?_ ?_ | with_reducible rfl | exact Nat.le_of_ble_eq_true rfl | refine fr1 ?_ | refine fr2 ?_ ?_ | refine AV.int_congr ?_ | refine AV.bool_congr ?_ | refine AV.str_congr ?_ | refine AV.list_congr ?_ | refine AV.bsl_congr ?_ ?_ | (apply rfl)
    · simp
    · simp only [List.nil_append, List.length_cons, List.length_nil, List.take_succ_cons, List.take_zero]
      rw [part_made (xs := tks tCond l 0) (sz := 5) rfl (by decide) (by simp [length_tks])]; rfl
  repeat' first
    | contradiction | exact trivial
    | (conv => whnf
       first | refine Need.mk (fun h => h) ?_ | refine Need.mk rfl ?_ | refine Need.mk ⟨rfl, Nat.le_of_ble_eq_true rfl⟩ ?_ | refine Need.mk (Nat.le_of_ble_eq_true rfl) ?_ | refine Need.fin ?_ | refine Need.mk ?_ ?_ | refine Ix.strsF rfl ?_ | refine Ix.strs rfl ?_ ?_ | refine Cut.strs rfl ?_ ?_ | refine Ix.mapF (fun _ => rfl) ?_ | refine Ix.map (fun _ => rfl) ?_ ?_ | refine Cut.map (fun _ => rfl) ?_ ?_ | refine Fork.yes (by assumption) ?_ | refine Fork.no (by assumption) ?_ | refine Fork.decYes (by omega) ?_ | refine Fork.decNo (by omega) ?_ | refine Fork.dec (fun _ => ?_) (fun _ => ?_) | refine Fork.bne (fun _ => ?_) (fun _ => ?_) | refine Fork.beq (fun _ => ?_) (fun _ => ?_) | refine Fork.seq (fun _ => ?_) (fun _ => ?_) | refine Fork.sne (fun _ => ?_) (fun _ => ?_) | refine Fork.neg (fun _ => ?_) (fun _ => ?_) | refine Fork.mk (fun _ => ?_) (fun _ => ?_) | refine HAlt.mk ?_ ?_ | apply HJoin.mk3 | exact HEnd.mk rfl rfl rfl | refine HEnd.mk ?_ ?_ ?_ | refine Round.mk ?_ | refine NilQ.mk (fun b hb => ?_) | refine forceK_of ?_ | refine forceBx_of ?_ | refine unG_old ?_ | refine unG_gv ?_ | refine Lit.read rfl ?_ | refine FinVal.keep ?_ | refine FinAgg.keep ?_ | refine Final.mk rfl rfl | refine Final.mk ?_ rfl | refine Final.mk ?_ ?_ | refine FinalT.mk ?_ ?_ | refine FinalC.allA ?_ | refine ACall.mk_Cond _ _ (toCond.ret _ ?_) (by repeat' first | exact SeesL.nil | refine SeesL.cons ?_ ?_ | exact SeesB.of0 (Sees0.val _) | exact SeesB.of0 (Sees0.str _) | exact SeesB.of0 (Sees0.olds _ _) | exact SeesB.of0 (Sees0.old _) | exact SeesB.of0 (Sees0.oldagg _) | exact SeesB.of0 Sees0.nil | exact Sees0.val _ | exact Sees0.str _ | exact Sees0.olds _ _ | exact Sees0.old _ | exact Sees0.oldagg _ | exact Sees0.nil | exact SeesB.of0 (Sees0.any _) | assumption | exact sees_gv _ _ _ (by assumption) (by first | assumption | exact BoxIn.last _ _ | exact BoxIn.more (BoxIn.last _ _) _) | refine SeesB.agg ?_ | refine Sees0.agg ?_ | exact SeesB.of0 (Sees0.clo SeesL.nil SeesL.nil) | exact Sees0.clo SeesL.nil SeesL.nil | exact SeesB.of0 (Sees0.list rfl) | exact Sees0.list rfl) ?_)
    | refine AV.bool_congr ?_ | refine AV.int_congr ?_ | refine AV.str_congr ?_ | refine AV.list_congr ?_ | with_reducible rfl | refine fr1 ?_ | refine fr2 ?_ ?_
  · rename_i h1
    rw [length_rows] at h1
    have := listSize_mem tCond (List.mem_of_getElem? (tCond_get (l := l) (i := i) (by omega)))
    rw [Int.toNat_natCast]; omega
  · rename_i h1
    rw [length_rows] at h1
    rw [part_len (sz := 5) rfl (tks_sz tCond l 0) (by rw [length_tks]; exact hi), Int.toNat_natCast, length_tks]
    exact ⟨rfl, by omega⟩
  · rename_i h1
    rw [length_rows] at h1
    refine ⟨i + 1, by omega, ?_, by omega⟩
    repeat' first
      | exact trivial | refine Weak.mk ?_ ?_ ?_ ?_ (Or.inl (Nat.le_of_ble_eq_true rfl)) | refine Weak.mk ?_ ?_ ?_ ?_ (Or.inr ⟨(by repeat' first | exact trivial | exact Nat.le_of_ble_eq_true rfl | refine And.intro ?_ ?_), (by repeat' first | exact trivial | exact Nat.le_of_ble_eq_true rfl | refine And.intro ?_ ?_)⟩) | refine Weak.mk ?_ ?_ ?_ ?_ ?_ | refine And.intro ?_ ?_ | with_reducible rfl | exact Nat.le_of_ble_eq_true rfl | refine fr1 ?_ | refine fr2 ?_ ?_ | refine AV.int_congr ?_ | refine AV.bool_congr ?_ | refine AV.str_congr ?_ | refine AV.list_congr ?_ | refine AV.bsl_congr ?_ ?_ | (apply rfl)
    · rw [wrap64 (by omega) (by omega)]; rfl
    · have := part_set (z := [.val (.int .i64 0), .str [], .val (.slice none 0 0), .str [], .str []]) (sz := 5) rfl (tks_sz tCond l 0) (tks_get tCond 0 (tCond_get (l := l) (i := i) (by omega)))
      rw [Nat.zero_add] at this
      simp only [List.set_cons_zero, List.take_succ_cons, List.take_zero, List.length_cons, List.length_nil, Int.toNat_natCast, this]
    · show frs tCond (l.take i) ++ tCond.fr (l.getD (i : Int).toNat default) = frs tCond (l.take (i + 1))
      rw [Int.toNat_natCast, take_succ' default (by omega), frs_append]; simp [frs]
  · rename_i h1
    rw [length_rows] at h1
    conv => whnf
    have : i = l.length := by omega
    subst this
    have hall := part_all [.val (.int .i64 0), .str [], .val (.slice none 0 0), .str [], .str []] (tks tCond l 0)
    rw [length_tks] at hall
    refine FreezeD.flat (Freeze.mk (tks tCond l 0) _ 51 5 rfl hall (length_tks _ _ _) (tks_sz tCond l 0) (fun c hc => ?_) ?_)
    · rw [hall] at hc; exact tks_nr tCond l 0 c hc
    · refine Final.mk ?_ ?_
      · rw [List.take_length, Nat.zero_add]
      · rw [List.take_length]; rfl
theorem szCondS.ret (l : List VCond) (a : Int) (h0 : 0 ≤ a) (ha : a ≤ 1048576) (hb : tConds.bd l) :
    szCondS.Ret [.list none (rows tCond l), .val (.int .i64 a)] (.val (.int .i64 (left a (tConds.size l)))) [] := by
  refine szCondS.of rfl ?_
  obtain ⟨hl, hb⟩ := hb
  have hw : IntKind.i64.wrap (a - ((rows tCond l).length : Int)) = a - l.length := by rw [length_rows]; exact wrap64 (by omega) (by omega)
  have hz := tConds_sz l
  repeat' first
    | contradiction | exact trivial
    | (conv => whnf
       first | refine Need.mk (fun h => h) ?_ | refine Need.mk rfl ?_ | refine Need.mk ⟨rfl, Nat.le_of_ble_eq_true rfl⟩ ?_ | refine Need.mk (Nat.le_of_ble_eq_true rfl) ?_ | refine Need.fin ?_ | refine Need.mk ?_ ?_ | refine Ix.strsF rfl ?_ | refine Ix.strs rfl ?_ ?_ | refine Cut.strs rfl ?_ ?_ | refine Ix.mapF (fun _ => rfl) ?_ | refine Ix.map (fun _ => rfl) ?_ ?_ | refine Cut.map (fun _ => rfl) ?_ ?_ | refine Fork.yes (by assumption) ?_ | refine Fork.no (by assumption) ?_ | refine Fork.decYes (by omega) ?_ | refine Fork.decNo (by omega) ?_ | refine Fork.dec (fun _ => ?_) (fun _ => ?_) | refine Fork.bne (fun _ => ?_) (fun _ => ?_) | refine Fork.beq (fun _ => ?_) (fun _ => ?_) | refine Fork.seq (fun _ => ?_) (fun _ => ?_) | refine Fork.sne (fun _ => ?_) (fun _ => ?_) | refine Fork.neg (fun _ => ?_) (fun _ => ?_) | refine Fork.mk (fun _ => ?_) (fun _ => ?_) | refine HAlt.mk ?_ ?_ | apply HJoin.mk3 | exact HEnd.mk rfl rfl rfl | refine HEnd.mk ?_ ?_ ?_ | refine Round.mk ?_ | refine NilQ.mk (fun b hb => ?_) | refine forceK_of ?_ | refine forceBx_of ?_ | refine unG_old ?_ | refine unG_gv ?_ | refine Lit.read rfl ?_ | refine FinVal.keep ?_ | refine FinAgg.keep ?_ | refine Final.mk rfl rfl | refine Final.mk ?_ rfl | refine Final.mk ?_ ?_ | refine FinalT.mk ?_ ?_ | refine FinalC.allA ?_)
    | refine AV.bool_congr ?_ | refine AV.int_congr ?_ | refine AV.str_congr ?_ | refine AV.list_congr ?_ | with_reducible rfl | refine fr1 ?_ | refine fr2 ?_ ?_
  · rename_i h
    rw [hw] at h
    rw [left, if_pos (by omega)]
  rename_i h
  rw [hw] at h
  repeat' first
    | contradiction | exact trivial
    | (conv => whnf
       first | refine Need.mk (fun h => h) ?_ | refine Need.mk rfl ?_ | refine Need.mk ⟨rfl, Nat.le_of_ble_eq_true rfl⟩ ?_ | refine Need.mk (Nat.le_of_ble_eq_true rfl) ?_ | refine Need.fin ?_ | refine Need.mk ?_ ?_ | refine Ix.strsF rfl ?_ | refine Ix.strs rfl ?_ ?_ | refine Cut.strs rfl ?_ ?_ | refine Ix.mapF (fun _ => rfl) ?_ | refine Ix.map (fun _ => rfl) ?_ ?_ | refine Cut.map (fun _ => rfl) ?_ ?_ | refine Fork.yes (by assumption) ?_ | refine Fork.no (by assumption) ?_ | refine Fork.decYes (by omega) ?_ | refine Fork.decNo (by omega) ?_ | refine Fork.dec (fun _ => ?_) (fun _ => ?_) | refine Fork.bne (fun _ => ?_) (fun _ => ?_) | refine Fork.beq (fun _ => ?_) (fun _ => ?_) | refine Fork.seq (fun _ => ?_) (fun _ => ?_) | refine Fork.sne (fun _ => ?_) (fun _ => ?_) | refine Fork.neg (fun _ => ?_) (fun _ => ?_) | refine Fork.mk (fun _ => ?_) (fun _ => ?_) | refine HAlt.mk ?_ ?_ | apply HJoin.mk3 | exact HEnd.mk rfl rfl rfl | refine HEnd.mk ?_ ?_ ?_ | refine Round.mk ?_ | refine NilQ.mk (fun b hb => ?_) | refine forceK_of ?_ | refine forceBx_of ?_ | refine unG_old ?_ | refine unG_gv ?_ | refine Lit.read rfl ?_ | refine FinVal.keep ?_ | refine FinAgg.keep ?_ | refine Final.mk rfl rfl | refine Final.mk ?_ rfl | refine Final.mk ?_ ?_ | refine FinalT.mk ?_ ?_ | refine FinalC.allA ?_)
    | refine AV.bool_congr ?_ | refine AV.int_congr ?_ | refine AV.str_congr ?_ | refine AV.list_congr ?_ | with_reducible rfl | refine fr1 ?_ | refine fr2 ?_ ?_
  refine ALoop.mk Nat (fun i => ⟨[(0, .list none (rows tCond l)), (1, .val (.int .i64 (a - l.length - listSize tCond (l.take i)))), (5, .val (.int .i64 i))], [], []⟩) (fun i => i ≤ l.length ∧ (0 : Int) ≤ a - l.length - listSize tCond (l.take i)) (fun i => l.length - i) ⟨0, ⟨Nat.zero_le _, by simp [listSize]; omega⟩, ?_⟩ (fun i hi => ?_)
  · repeat' first
      | exact trivial | refine Weak.mk ?_ ?_ ?_ ?_ (Or.inl (Nat.le_of_ble_eq_true rfl)) | refine Weak.mk ?_ ?_ ?_ ?_ (Or.inr ⟨(by repeat' first | exact trivial | exact Nat.le_of_ble_eq_true rfl | refine And.intro ?_ ?_), (by repeat' first | exact trivial | exact Nat.le_of_ble_eq_true rfl | refine And.intro ?_ ?_)⟩) | refine Weak.mk ?_ ?_ ?_ ?_ ?_ | refine And.intro ?_ ?_ | with_reducible rfl | exact Nat.le_of_ble_eq_true rfl | refine fr1 ?_ | refine fr2 ?_ ?_ | refine AV.int_congr ?_ | refine AV.bool_congr ?_ | refine AV.str_congr ?_ | refine AV.list_congr ?_ | refine AV.bsl_congr ?_ ?_ | (apply rfl)
    rw [hw]; simp [listSize]
  obtain ⟨hp1, hp2⟩ := hi
  have hle := listSize_take_le tCond l (i + 1)
  have hbi : i < l.length → tCond.bd (l.getD i default) := fun h => hb _ (List.mem_of_getElem? (tCond_get h))
  have hsz : i < l.length → listSize tCond (l.take (i + 1)) = listSize tCond (l.take i) + tCond.size (l.getD i default) := fun h => listSize_take_succ tCond (tCond_get h)
  repeat' first
    | contradiction | exact trivial
    | (conv => whnf
       first | refine Need.mk (fun h => h) ?_ | refine Need.mk rfl ?_ | refine Need.mk ⟨rfl, Nat.le_of_ble_eq_true rfl⟩ ?_ | refine Need.mk (Nat.le_of_ble_eq_true rfl) ?_ | refine Need.fin ?_ | refine Need.mk ?_ ?_ | refine Ix.strsF rfl ?_ | refine Ix.strs rfl ?_ ?_ | refine Cut.strs rfl ?_ ?_ | refine Ix.mapF (fun _ => rfl) ?_ | refine Ix.map (fun _ => rfl) ?_ ?_ | refine Cut.map (fun _ => rfl) ?_ ?_ | refine Fork.yes (by assumption) ?_ | refine Fork.no (by assumption) ?_ | refine Fork.decYes (by omega) ?_ | refine Fork.decNo (by omega) ?_ | refine Fork.dec (fun _ => ?_) (fun _ => ?_) | refine Fork.bne (fun _ => ?_) (fun _ => ?_) | refine Fork.beq (fun _ => ?_) (fun _ => ?_) | refine Fork.seq (fun _ => ?_) (fun _ => ?_) | refine Fork.sne (fun _ => ?_) (fun _ => ?_) | refine Fork.neg (fun _ => ?_) (fun _ => ?_) | refine Fork.mk (fun _ => ?_) (fun _ => ?_) | refine HAlt.mk ?_ ?_ | apply HJoin.mk3 | exact HEnd.mk rfl rfl rfl | refine HEnd.mk ?_ ?_ ?_ | refine Round.mk ?_ | refine NilQ.mk (fun b hb => ?_) | refine forceK_of ?_ | refine forceBx_of ?_ | refine unG_old ?_ | refine unG_gv ?_ | refine Lit.read rfl ?_ | refine FinVal.keep ?_ | refine FinAgg.keep ?_ | refine Final.mk rfl rfl | refine Final.mk ?_ rfl | refine Final.mk ?_ ?_ | refine FinalT.mk ?_ ?_ | refine FinalC.allA ?_ | refine ACall.scalA _ _ (szCond.ret _ _ ?_ ?_ ?_) rfl ?_ | refine AQCall.mkA _ _ (fun hg => szCond.ret _ _ ?_ ?_ ?_) rfl ?_ | refine AGCall.mkA _ _ (fun hg => szCond.ret _ _ ?_ ?_ ?_) rfl ?_)
    | refine AV.bool_congr ?_ | refine AV.int_congr ?_ | refine AV.str_congr ?_ | refine AV.list_congr ?_ | with_reducible rfl | refine fr1 ?_ | refine fr2 ?_ ?_
  · exact hp2
  · omega
  · rename_i h1
    rw [length_rows] at h1
    rw [Int.toNat_natCast]; exact hbi (by omega)
  · rename_i h1 h2
    rw [length_rows] at h1
    rw [Int.toNat_natCast] at h2
    have := hsz (by omega)
    unfold left at h2 ⊢
    split at h2
    · rw [if_pos (by omega)]
    · omega
  · rename_i h1 h2
    rw [length_rows] at h1
    rw [Int.toNat_natCast] at h2
    have := hsz (by omega)
    have e : left (a - ↑l.length - ↑(listSize tCond (l.take i))) (tCond.size (l.getD i default)) = a - ↑l.length - ↑(listSize tCond (l.take (i + 1))) := by
      unfold left at h2 ⊢
      split at h2
      · omega
      · rw [if_neg ‹_›]; omega
    refine ⟨i + 1, ⟨by omega, ?_⟩, ?_, by omega⟩
    · rw [← e]; omega
    · repeat' first
        | exact trivial | refine Weak.mk ?_ ?_ ?_ ?_ (Or.inl (Nat.le_of_ble_eq_true rfl)) | refine Weak.mk ?_ ?_ ?_ ?_ (Or.inr ⟨(by repeat' first | exact trivial | exact Nat.le_of_ble_eq_true rfl | refine And.intro ?_ ?_), (by repeat' first | exact trivial | exact Nat.le_of_ble_eq_true rfl | refine And.intro ?_ ?_)⟩) | refine Weak.mk ?_ ?_ ?_ ?_ ?_ | refine And.intro ?_ ?_ | with_reducible rfl | exact Nat.le_of_ble_eq_true rfl | refine fr1 ?_ | refine fr2 ?_ ?_ | refine AV.int_congr ?_ | refine AV.bool_congr ?_ | refine AV.str_congr ?_ | refine AV.list_congr ?_ | refine AV.bsl_congr ?_ ?_ | (apply rfl)
      · rw [Int.toNat_natCast]; exact e
      · rw [wrap64 (by omega) (by omega)]; rfl
  · rename_i h1
    rw [length_rows] at h1
    rw [List.take_of_length_le (by omega)] at hp2 ⊢
    rw [left, if_neg (by omega)]; omega
theorem eqCondS.big (l m : List VCond) (h : tConds.size l ≤ 1099511627775) : eqCondS.Ret [.list none (rows tCond l), .list none (rows tCond m)] (.val (.bool (decide (l = m)))) [] := by
  refine eqCondS.of rfl ?_
  rw [tConds_sz] at h
  repeat' first
    | contradiction | exact trivial
    | (conv => whnf
       first | refine Need.mk (fun h => h) ?_ | refine Need.mk rfl ?_ | refine Need.mk ⟨rfl, Nat.le_of_ble_eq_true rfl⟩ ?_ | refine Need.mk (Nat.le_of_ble_eq_true rfl) ?_ | refine Need.fin ?_ | refine Need.mk ?_ ?_ | refine Ix.strsF rfl ?_ | refine Ix.strs rfl ?_ ?_ | refine Cut.strs rfl ?_ ?_ | refine Ix.mapF (fun _ => rfl) ?_ | refine Ix.map (fun _ => rfl) ?_ ?_ | refine Cut.map (fun _ => rfl) ?_ ?_ | refine Fork.yes (by assumption) ?_ | refine Fork.no (by assumption) ?_ | refine Fork.decYes (by omega) ?_ | refine Fork.decNo (by omega) ?_ | refine Fork.dec (fun _ => ?_) (fun _ => ?_) | refine Fork.bne (fun _ => ?_) (fun _ => ?_) | refine Fork.beq (fun _ => ?_) (fun _ => ?_) | refine Fork.seq (fun _ => ?_) (fun _ => ?_) | refine Fork.sne (fun _ => ?_) (fun _ => ?_) | refine Fork.neg (fun _ => ?_) (fun _ => ?_) | refine Fork.mk (fun _ => ?_) (fun _ => ?_) | refine HAlt.mk ?_ ?_ | apply HJoin.mk3 | exact HEnd.mk rfl rfl rfl | refine HEnd.mk ?_ ?_ ?_ | refine Round.mk ?_ | refine NilQ.mk (fun b hb => ?_) | refine forceK_of ?_ | refine forceBx_of ?_ | refine unG_old ?_ | refine unG_gv ?_ | refine Lit.read rfl ?_ | refine FinVal.keep ?_ | refine FinAgg.keep ?_ | refine Final.mk rfl rfl | refine Final.mk ?_ rfl | refine Final.mk ?_ ?_ | refine FinalT.mk ?_ ?_ | refine FinalC.allA ?_)
    | refine AV.bool_congr ?_ | refine AV.int_congr ?_ | refine AV.str_congr ?_ | refine AV.list_congr ?_ | with_reducible rfl | refine fr1 ?_ | refine fr2 ?_ ?_
  · rename_i h
    rw [length_rows, length_rows] at h
    have h3 : ¬ l = m := fun e => h (by rw [e])
    simp [h3]
  rename_i h
  rw [length_rows, length_rows] at h
  have h : l.length = m.length := by omega
  repeat' first
    | contradiction | exact trivial
    | (conv => whnf
       first | refine Need.mk (fun h => h) ?_ | refine Need.mk rfl ?_ | refine Need.mk ⟨rfl, Nat.le_of_ble_eq_true rfl⟩ ?_ | refine Need.mk (Nat.le_of_ble_eq_true rfl) ?_ | refine Need.fin ?_ | refine Need.mk ?_ ?_ | refine Ix.strsF rfl ?_ | refine Ix.strs rfl ?_ ?_ | refine Cut.strs rfl ?_ ?_ | refine Ix.mapF (fun _ => rfl) ?_ | refine Ix.map (fun _ => rfl) ?_ ?_ | refine Cut.map (fun _ => rfl) ?_ ?_ | refine Fork.yes (by assumption) ?_ | refine Fork.no (by assumption) ?_ | refine Fork.decYes (by omega) ?_ | refine Fork.decNo (by omega) ?_ | refine Fork.dec (fun _ => ?_) (fun _ => ?_) | refine Fork.bne (fun _ => ?_) (fun _ => ?_) | refine Fork.beq (fun _ => ?_) (fun _ => ?_) | refine Fork.seq (fun _ => ?_) (fun _ => ?_) | refine Fork.sne (fun _ => ?_) (fun _ => ?_) | refine Fork.neg (fun _ => ?_) (fun _ => ?_) | refine Fork.mk (fun _ => ?_) (fun _ => ?_) | refine HAlt.mk ?_ ?_ | apply HJoin.mk3 | exact HEnd.mk rfl rfl rfl | refine HEnd.mk ?_ ?_ ?_ | refine Round.mk ?_ | refine NilQ.mk (fun b hb => ?_) | refine forceK_of ?_ | refine forceBx_of ?_ | refine unG_old ?_ | refine unG_gv ?_ | refine Lit.read rfl ?_ | refine FinVal.keep ?_ | refine FinAgg.keep ?_ | refine Final.mk rfl rfl | refine Final.mk ?_ rfl | refine Final.mk ?_ ?_ | refine FinalT.mk ?_ ?_ | refine FinalC.allA ?_)
    | refine AV.bool_congr ?_ | refine AV.int_congr ?_ | refine AV.str_congr ?_ | refine AV.list_congr ?_ | with_reducible rfl | refine fr1 ?_ | refine fr2 ?_ ?_
  refine ALoop.mk Nat (fun i => ⟨[(0, .list none (rows tCond l)), (1, .list none (rows tCond m)), (5, .val (.int .i64 i))], [], []⟩) (fun i => i ≤ l.length ∧ l.take i = m.take i) (fun i => l.length - i) ⟨0, ⟨Nat.zero_le _, rfl⟩, ?_⟩ (fun i hi => ?_)
  · repeat' first
      | exact trivial | refine Weak.mk ?_ ?_ ?_ ?_ (Or.inl (Nat.le_of_ble_eq_true rfl)) | refine Weak.mk ?_ ?_ ?_ ?_ (Or.inr ⟨(by repeat' first | exact trivial | exact Nat.le_of_ble_eq_true rfl | refine And.intro ?_ ?_), (by repeat' first | exact trivial | exact Nat.le_of_ble_eq_true rfl | refine And.intro ?_ ?_)⟩) | refine Weak.mk ?_ ?_ ?_ ?_ ?_ | refine And.intro ?_ ?_ | with_reducible rfl | exact Nat.le_of_ble_eq_true rfl | refine fr1 ?_ | refine fr2 ?_ ?_ | refine AV.int_congr ?_ | refine AV.bool_congr ?_ | refine AV.str_congr ?_ | refine AV.list_congr ?_ | refine AV.bsl_congr ?_ ?_ | (apply rfl)
  repeat' first
    | contradiction | exact trivial
    | (conv => whnf
       first | refine Need.mk (fun h => h) ?_ | refine Need.mk rfl ?_ | refine Need.mk ⟨rfl, Nat.le_of_ble_eq_true rfl⟩ ?_ | refine Need.mk (Nat.le_of_ble_eq_true rfl) ?_ | refine Need.fin ?_ | refine Need.mk ?_ ?_ | refine Ix.strsF rfl ?_ | refine Ix.strs rfl ?_ ?_ | refine Cut.strs rfl ?_ ?_ | refine Ix.mapF (fun _ => rfl) ?_ | refine Ix.map (fun _ => rfl) ?_ ?_ | refine Cut.map (fun _ => rfl) ?_ ?_ | refine Fork.yes (by assumption) ?_ | refine Fork.no (by assumption) ?_ | refine Fork.decYes (by omega) ?_ | refine Fork.decNo (by omega) ?_ | refine Fork.dec (fun _ => ?_) (fun _ => ?_) | refine Fork.bne (fun _ => ?_) (fun _ => ?_) | refine Fork.beq (fun _ => ?_) (fun _ => ?_) | refine Fork.seq (fun _ => ?_) (fun _ => ?_) | refine Fork.sne (fun _ => ?_) (fun _ => ?_) | refine Fork.neg (fun _ => ?_) (fun _ => ?_) | refine Fork.mk (fun _ => ?_) (fun _ => ?_) | refine HAlt.mk ?_ ?_ | apply HJoin.mk3 | exact HEnd.mk rfl rfl rfl | refine HEnd.mk ?_ ?_ ?_ | refine Round.mk ?_ | refine NilQ.mk (fun b hb => ?_) | refine forceK_of ?_ | refine forceBx_of ?_ | refine unG_old ?_ | refine unG_gv ?_ | refine Lit.read rfl ?_ | refine FinVal.keep ?_ | refine FinAgg.keep ?_ | refine Final.mk rfl rfl | refine Final.mk ?_ rfl | refine Final.mk ?_ ?_ | refine FinalT.mk ?_ ?_ | refine FinalC.allA ?_ | refine ACall.scalA _ _ (eqCond.big _ _ ?_) rfl ?_ | refine AQCall.mkA _ _ (fun hg => eqCond.big _ _ ?_) rfl ?_ | refine AGCall.mkA _ _ (fun hg => eqCond.big _ _ ?_) rfl ?_)
    | refine AV.bool_congr ?_ | refine AV.int_congr ?_ | refine AV.str_congr ?_ | refine AV.list_congr ?_ | with_reducible rfl | refine fr1 ?_ | refine fr2 ?_ ?_
  · rename_i h1
    rw [length_rows] at h1
    have := listSize_mem tCond (List.mem_of_getElem? (tCond_get (l := l) (i := i) (by omega)))
    rw [Int.toNat_natCast]; omega
  · rename_i h1 h2
    have h3 : ¬ l = m := fun e => of_decide_eq_false h2 (by rw [e])
    simp [h3]
  · rename_i h1 h2
    rw [length_rows] at h1
    rw [Int.toNat_natCast] at h2
    refine ⟨i + 1, ⟨by omega, ?_⟩, ?_, by omega⟩
    · rw [take_succ' default (by omega), take_succ' (l := m) default (by omega), hi.2, of_decide_eq_true h2]
    · repeat' first
        | exact trivial | refine Weak.mk ?_ ?_ ?_ ?_ (Or.inl (Nat.le_of_ble_eq_true rfl)) | refine Weak.mk ?_ ?_ ?_ ?_ (Or.inr ⟨(by repeat' first | exact trivial | exact Nat.le_of_ble_eq_true rfl | refine And.intro ?_ ?_), (by repeat' first | exact trivial | exact Nat.le_of_ble_eq_true rfl | refine And.intro ?_ ?_)⟩) | refine Weak.mk ?_ ?_ ?_ ?_ ?_ | refine And.intro ?_ ?_ | with_reducible rfl | exact Nat.le_of_ble_eq_true rfl | refine fr1 ?_ | refine fr2 ?_ ?_ | refine AV.int_congr ?_ | refine AV.bool_congr ?_ | refine AV.str_congr ?_ | refine AV.list_congr ?_ | refine AV.bsl_congr ?_ ?_ | (apply rfl)
      rw [wrap64 (by omega) (by omega)]; rfl
  · rename_i h1
    rw [length_rows] at h1
    have h2 := hi.2
    rw [List.take_of_length_le (by omega), List.take_of_length_le (by omega)] at h2
    simp [h2]
end Go.Proofs.YtimcfgokocihnaaGreat
namespace Go.Proofs.YtimcfgokocihnaaGreat
open Abs
abbrev VAction := Int × VPattern
instance : DecidableEq VAction := instDecidableEqProd
def tAction : Ty VAction := Ty.pair Ty.int tPattern
theorem tAction_size (a : VAction) : tAction.size a = 0 + tPattern.size a.2 := rfl
def tActions : Ty (List VAction) := Ty.list 58 tAction
theorem tActions_sz (l : List VAction) : tActions.size l = l.length + listSize tAction l := rfl
theorem tAction_get {l : List VAction} {i : Nat} (hi : i < l.length) : l[i]? = some (l.getD i default) := by simp [List.getD, hi]
theorem tAction_le {l : List VAction} {i : Nat} (hi : i < l.length) : tAction.size (l.getD i default) ≤ listSize tAction l := listSize_mem tAction (List.mem_of_getElem? (tAction_get hi))
theorem Abs.ACall.mk_Action {C : Con} {lend : Bool} {f : Nat} {vs : List AV} {b : List ABox} {fr : Fr} {k : AV → List ABox → Fr → Prop} (ys : List AV) (a : VAction) (h : C.ret f ys (.agg (tAction.tk a 0)) (tAction.fr a)) (hv : SeesL Sees0 vs ys)
    (hk : k (.agg (tAction.tk a fr.length)) b (fr ++ tAction.fr a)) : ACall C lend f vs b fr k := ACall.mkA tAction ys a h hv hk
theorem Abs.ACall.mk_ActionS {C : Con} {lend : Bool} {f : Nat} {vs : List AV} {b : List ABox} {fr : Fr} {k : AV → List ABox → Fr → Prop} (ys : List AV) (l : List VAction) (h : C.ret f ys (.list (some (0 + (frs tAction l).length)) (tks tAction l 0)) (tActions.fr l)) (hv : SeesL Sees0 vs ys)
    (hk : k (.list (some (fr.length + (frs tAction l).length)) (tks tAction l fr.length)) b (fr ++ tActions.fr l)) : ACall C lend f vs b fr k :=
  ACall.mkV tActions ys l (fun n => .list (some (n + (frs tAction l).length)) (tks tAction l n)) (fun _ => rfl) h hv hk
theorem toAction.ret (a : VAction) (h : tAction.size a ≤ 1048576) : toAction.Ret [.agg (oldL (tAction.q a))] (.agg (tAction.tk a 0)) (tAction.fr a) := by
  refine toAction.of rfl ?_
  rw [tAction_size] at h
  repeat' first
    | contradiction | exact trivial
    | (conv => whnf
       first | refine Need.mk (fun h => h) ?_ | refine Need.mk rfl ?_ | refine Need.mk ⟨rfl, Nat.le_of_ble_eq_true rfl⟩ ?_ | refine Need.mk (Nat.le_of_ble_eq_true rfl) ?_ | refine Need.fin ?_ | refine Need.mk ?_ ?_ | refine Ix.strsF rfl ?_ | refine Ix.strs rfl ?_ ?_ | refine Cut.strs rfl ?_ ?_ | refine Ix.mapF (fun _ => rfl) ?_ | refine Ix.map (fun _ => rfl) ?_ ?_ | refine Cut.map (fun _ => rfl) ?_ ?_ | refine Fork.yes (by assumption) ?_ | refine Fork.no (by assumption) ?_ | refine Fork.decYes (by omega) ?_ | refine Fork.decNo (by omega) ?_ | refine Fork.dec (fun _ => ?_) (fun _ => ?_) | refine Fork.bne (fun _ => ?_) (fun _ => ?_) | refine Fork.beq (fun _ => ?_) (fun _ => ?_) | refine Fork.seq (fun _ => ?_) (fun _ => ?_) | refine Fork.sne (fun _ => ?_) (fun _ => ?_) | refine Fork.neg (fun _ => ?_) (fun _ => ?_) | refine Fork.mk (fun _ => ?_) (fun _ => ?_) | refine HAlt.mk ?_ ?_ | apply HJoin.mk3 | exact HEnd.mk rfl rfl rfl | refine HEnd.mk ?_ ?_ ?_ | refine Round.mk ?_ | refine NilQ.mk (fun b hb => ?_) | refine forceK_of ?_ | refine forceBx_of ?_ | refine unG_old ?_ | refine unG_gv ?_ | refine Lit.read rfl ?_ | refine FinVal.keep ?_ | refine FinAgg.keep ?_ | refine Final.mk rfl rfl | refine Final.mk ?_ rfl | refine Final.mk ?_ ?_ | refine FinalT.mk ?_ ?_ | refine FinalC.allA ?_ | refine ACall.mk_Pattern _ _ (toPattern.ret _ ?_) (by repeat' first | exact SeesL.nil | refine SeesL.cons ?_ ?_ | exact SeesB.of0 (Sees0.val _) | exact SeesB.of0 (Sees0.str _) | exact SeesB.of0 (Sees0.olds _ _) | exact SeesB.of0 (Sees0.old _) | exact SeesB.of0 (Sees0.oldagg _) | exact SeesB.of0 Sees0.nil | exact Sees0.val _ | exact Sees0.str _ | exact Sees0.olds _ _ | exact Sees0.old _ | exact Sees0.oldagg _ | exact Sees0.nil | exact SeesB.of0 (Sees0.any _) | assumption | exact sees_gv _ _ _ (by assumption) (by first | assumption | exact BoxIn.last _ _ | exact BoxIn.more (BoxIn.last _ _) _) | refine SeesB.agg ?_ | refine Sees0.agg ?_ | exact SeesB.of0 (Sees0.clo SeesL.nil SeesL.nil) | exact Sees0.clo SeesL.nil SeesL.nil | exact SeesB.of0 (Sees0.list rfl) | exact Sees0.list rfl) ?_)
    | refine AV.bool_congr ?_ | refine AV.int_congr ?_ | refine AV.str_congr ?_ | refine AV.list_congr ?_ | with_reducible rfl | refine fr1 ?_ | refine fr2 ?_ ?_
  all_goals first
    | omega
    | (refine congrArg AV.agg ?_
       repeat' first
         | refine cons_congr ?_ ?_
         | refine tok_congr ?_ ?_
         | refine congrArg (tks _ _) ?_
         | rfl
       all_goals (simp [Ty.pair, Ty.str, Ty.int, Ty.bool, Nat.add_assoc]; done))
    | (simp [tAction, Ty.pair, Ty.str, Ty.int, Ty.bool, List.append_assoc, Nat.add_assoc]; done)
theorem szAction.ret (f : VAction) (a : Int) (h0 : 0 ≤ a) (ha : a ≤ 1048576) (hb : tAction.bd f) :
    szAction.Ret [.agg (oldL (tAction.q f)), .val (.int .i64 a)] (.val (.int .i64 (left a (tAction.size f)))) [] := by
  refine szAction.of rfl ?_
  have hz := tAction_size f
  obtain ⟨hb0, hb1⟩ := hb
  by_cases c1 : a < (tPattern.size f.2 : Int)
  · have e0 : left a (tPattern.size f.2) = -1 := by rw [left, if_pos (by omega)]
    repeat' first
      | contradiction | exact trivial
      | (conv => whnf
         first | refine Need.mk (fun h => h) ?_ | refine Need.mk rfl ?_ | refine Need.mk ⟨rfl, Nat.le_of_ble_eq_true rfl⟩ ?_ | refine Need.mk (Nat.le_of_ble_eq_true rfl) ?_ | refine Need.fin ?_ | refine Need.mk ?_ ?_ | refine Ix.strsF rfl ?_ | refine Ix.strs rfl ?_ ?_ | refine Cut.strs rfl ?_ ?_ | refine Ix.mapF (fun _ => rfl) ?_ | refine Ix.map (fun _ => rfl) ?_ ?_ | refine Cut.map (fun _ => rfl) ?_ ?_ | refine Fork.yes (by assumption) ?_ | refine Fork.no (by assumption) ?_ | refine Fork.decYes (by omega) ?_ | refine Fork.decNo (by omega) ?_ | refine Fork.dec (fun _ => ?_) (fun _ => ?_) | refine Fork.bne (fun _ => ?_) (fun _ => ?_) | refine Fork.beq (fun _ => ?_) (fun _ => ?_) | refine Fork.seq (fun _ => ?_) (fun _ => ?_) | refine Fork.sne (fun _ => ?_) (fun _ => ?_) | refine Fork.neg (fun _ => ?_) (fun _ => ?_) | refine Fork.mk (fun _ => ?_) (fun _ => ?_) | refine HAlt.mk ?_ ?_ | apply HJoin.mk3 | exact HEnd.mk rfl rfl rfl | refine HEnd.mk ?_ ?_ ?_ | refine Round.mk ?_ | refine NilQ.mk (fun b hb => ?_) | refine forceK_of ?_ | refine forceBx_of ?_ | refine unG_old ?_ | refine unG_gv ?_ | refine Lit.read rfl ?_ | refine FinVal.keep ?_ | refine FinAgg.keep ?_ | refine Final.mk rfl rfl | refine Final.mk ?_ rfl | refine Final.mk ?_ ?_ | refine FinalT.mk ?_ ?_ | refine FinalC.allA ?_ | refine ACall.scalA _ _ (szPattern.ret _ _ ?_ ?_ ?_) rfl ?_ | refine AQCall.mkA _ _ (fun hg => szPattern.ret _ _ ?_ ?_ ?_) rfl ?_ | refine AGCall.mkA _ _ (fun hg => szPattern.ret _ _ ?_ ?_ ?_) rfl ?_)
      | refine AV.bool_congr ?_ | refine AV.int_congr ?_ | refine AV.str_congr ?_ | refine AV.list_congr ?_ | with_reducible rfl | refine fr1 ?_ | refine fr2 ?_ ?_
    all_goals first
      | assumption
      | omega
      | exact left_eq (by omega)
  have e0 : left a (tPattern.size f.2) = a - (tPattern.size f.2 : Int) := by rw [left, if_neg (by omega)]
  repeat' first
    | contradiction | exact trivial
    | (conv => whnf
       first | refine Need.mk (fun h => h) ?_ | refine Need.mk rfl ?_ | refine Need.mk ⟨rfl, Nat.le_of_ble_eq_true rfl⟩ ?_ | refine Need.mk (Nat.le_of_ble_eq_true rfl) ?_ | refine Need.fin ?_ | refine Need.mk ?_ ?_ | refine Ix.strsF rfl ?_ | refine Ix.strs rfl ?_ ?_ | refine Cut.strs rfl ?_ ?_ | refine Ix.mapF (fun _ => rfl) ?_ | refine Ix.map (fun _ => rfl) ?_ ?_ | refine Cut.map (fun _ => rfl) ?_ ?_ | refine Fork.yes (by assumption) ?_ | refine Fork.no (by assumption) ?_ | refine Fork.decYes (by omega) ?_ | refine Fork.decNo (by omega) ?_ | refine Fork.dec (fun _ => ?_) (fun _ => ?_) | refine Fork.bne (fun _ => ?_) (fun _ => ?_) | refine Fork.beq (fun _ => ?_) (fun _ => ?_) | refine Fork.seq (fun _ => ?_) (fun _ => ?_) | refine Fork.sne (fun _ => ?_) (fun _ => ?_) | refine Fork.neg (fun _ => ?_) (fun _ => ?_) | refine Fork.mk (fun _ => ?_) (fun _ => ?_) | refine HAlt.mk ?_ ?_ | apply HJoin.mk3 | exact HEnd.mk rfl rfl rfl | refine HEnd.mk ?_ ?_ ?_ | refine Round.mk ?_ | refine NilQ.mk (fun b hb => ?_) | refine forceK_of ?_ | refine forceBx_of ?_ | refine unG_old ?_ | refine unG_gv ?_ | refine Lit.read rfl ?_ | refine FinVal.keep ?_ | refine FinAgg.keep ?_ | refine Final.mk rfl rfl | refine Final.mk ?_ rfl | refine Final.mk ?_ ?_ | refine FinalT.mk ?_ ?_ | refine FinalC.allA ?_ | refine ACall.scalA _ _ (szPattern.ret _ _ ?_ ?_ ?_) rfl ?_ | refine AQCall.mkA _ _ (fun hg => szPattern.ret _ _ ?_ ?_ ?_) rfl ?_ | refine AGCall.mkA _ _ (fun hg => szPattern.ret _ _ ?_ ?_ ?_) rfl ?_)
    | refine AV.bool_congr ?_ | refine AV.int_congr ?_ | refine AV.str_congr ?_ | refine AV.list_congr ?_ | with_reducible rfl | refine fr1 ?_ | refine fr2 ?_ ?_
  all_goals first
    | assumption
    | omega
    | exact left_eq (by omega)
theorem eqAction.big (f g : VAction) (h : tAction.size f ≤ 1099511627775) : eqAction.Ret [.agg (oldL (tAction.q f)), .agg (oldL (tAction.q g))] (.val (.bool (decide (f = g)))) [] := by
  refine eqAction.of rfl ?_
  have hz := tAction_size f
  repeat' first
    | contradiction | exact trivial
    | (conv => whnf
       first | refine Need.mk (fun h => h) ?_ | refine Need.mk rfl ?_ | refine Need.mk ⟨rfl, Nat.le_of_ble_eq_true rfl⟩ ?_ | refine Need.mk (Nat.le_of_ble_eq_true rfl) ?_ | refine Need.fin ?_ | refine Need.mk ?_ ?_ | refine Ix.strsF rfl ?_ | refine Ix.strs rfl ?_ ?_ | refine Cut.strs rfl ?_ ?_ | refine Ix.mapF (fun _ => rfl) ?_ | refine Ix.map (fun _ => rfl) ?_ ?_ | refine Cut.map (fun _ => rfl) ?_ ?_ | refine Fork.yes (by assumption) ?_ | refine Fork.no (by assumption) ?_ | refine Fork.decYes (by omega) ?_ | refine Fork.decNo (by omega) ?_ | refine Fork.dec (fun _ => ?_) (fun _ => ?_) | refine Fork.bne (fun _ => ?_) (fun _ => ?_) | refine Fork.beq (fun _ => ?_) (fun _ => ?_) | refine Fork.seq (fun _ => ?_) (fun _ => ?_) | refine Fork.sne (fun _ => ?_) (fun _ => ?_) | refine Fork.neg (fun _ => ?_) (fun _ => ?_) | refine Fork.mk (fun _ => ?_) (fun _ => ?_) | refine HAlt.mk ?_ ?_ | apply HJoin.mk3 | exact HEnd.mk rfl rfl rfl | refine HEnd.mk ?_ ?_ ?_ | refine Round.mk ?_ | refine NilQ.mk (fun b hb => ?_) | refine forceK_of ?_ | refine forceBx_of ?_ | refine unG_old ?_ | refine unG_gv ?_ | refine Lit.read rfl ?_ | refine FinVal.keep ?_ | refine FinAgg.keep ?_ | refine Final.mk rfl rfl | refine Final.mk ?_ rfl | refine Final.mk ?_ ?_ | refine FinalT.mk ?_ ?_ | refine FinalC.allA ?_ | refine ACall.scalA _ _ (eqPattern.big _ _ ?_) rfl ?_ | refine AQCall.mkA _ _ (fun hg => eqPattern.big _ _ ?_) rfl ?_ | refine AGCall.mkA _ _ (fun hg => eqPattern.big _ _ ?_) rfl ?_)
    | refine AV.bool_congr ?_ | refine AV.int_congr ?_ | refine AV.str_congr ?_ | refine AV.list_congr ?_ | with_reducible rfl | refine fr1 ?_ | refine fr2 ?_ ?_
  all_goals first
    | omega
    | (simp only [tStrs_size, tInts_size] at *; omega)
    | (obtain ⟨x0, ⟨x10, x11⟩⟩ := f; obtain ⟨y0, ⟨y10, y11⟩⟩ := g; simp_all)
theorem toActionS.ret (l : List VAction) (h : tActions.size l ≤ 1048576) : toActionS.Ret [.list none (rows tAction l)] (.list (some (0 + (frs tAction l).length)) (tks tAction l 0)) (tActions.fr l) := by
  refine toActionS.of rfl ?_
  rw [tActions_sz] at h
  repeat' first
    | contradiction | exact trivial
    | (conv => whnf
       first | refine Need.mk (fun h => h) ?_ | refine Need.mk rfl ?_ | refine Need.mk ⟨rfl, Nat.le_of_ble_eq_true rfl⟩ ?_ | refine Need.mk (Nat.le_of_ble_eq_true rfl) ?_ | refine Need.fin ?_ | refine Need.mk ?_ ?_ | refine Ix.strsF rfl ?_ | refine Ix.strs rfl ?_ ?_ | refine Cut.strs rfl ?_ ?_ | refine Ix.mapF (fun _ => rfl) ?_ | refine Ix.map (fun _ => rfl) ?_ ?_ | refine Cut.map (fun _ => rfl) ?_ ?_ | refine Fork.yes (by assumption) ?_ | refine Fork.no (by assumption) ?_ | refine Fork.decYes (by omega) ?_ | refine Fork.decNo (by omega) ?_ | refine Fork.dec (fun _ => ?_) (fun _ => ?_) | refine Fork.bne (fun _ => ?_) (fun _ => ?_) | refine Fork.beq (fun _ => ?_) (fun _ => ?_) | refine Fork.seq (fun _ => ?_) (fun _ => ?_) | refine Fork.sne (fun _ => ?_) (fun _ => ?_) | refine Fork.neg (fun _ => ?_) (fun _ => ?_) | refine Fork.mk (fun _ => ?_) (fun _ => ?_) | refine HAlt.mk ?_ ?_ | apply HJoin.mk3 | exact HEnd.mk rfl rfl rfl | refine HEnd.mk ?_ ?_ ?_ | refine Round.mk ?_ | refine NilQ.mk (fun b hb => ?_) | refine forceK_of ?_ | refine forceBx_of ?_ | refine unG_old ?_ | refine unG_gv ?_ | refine Lit.read rfl ?_ | refine FinVal.keep ?_ | refine FinAgg.keep ?_ | refine Final.mk rfl rfl | refine Final.mk ?_ rfl | refine Final.mk ?_ ?_ | refine FinalT.mk ?_ ?_ | refine FinalC.allA ?_)
    | refine AV.bool_congr ?_ | refine AV.int_congr ?_ | refine AV.str_congr ?_ | refine AV.list_congr ?_ | with_reducible rfl | refine fr1 ?_ | refine fr2 ?_ ?_
  refine ALoop.mk Nat (fun i => ⟨[(0, .list none (rows tAction l)), (3, .bsl 0 l.length), (4, .val (.int .i64 i))], [.cells (.row 58 3) (part [.val (.int .i64 0), .str [], .val (.slice none 0 0)] (tks tAction l 0) i)], frs tAction (l.take i)⟩) (fun i => i ≤ l.length) (fun i => l.length - i) ⟨0, Nat.zero_le _, ?_⟩ (fun i hi => ?_)
  · repeat' first
      | exact trivial | refine Weak.mk ?_ ?_ ?_ ?_ (Or.inl (Nat.le_of_ble_eq_true rfl)) | refine Weak.mk ?_ ?_ ?_ ?_ (Or.inr ⟨(by repeat' first | exact trivial | exact Nat.le_of_ble_eq_true rfl | refine And.intro ?_ ?_), (by repeat' first | exact trivial | exact Nat.le_of_ble_eq_true rfl | refine And.intro ?_ ?_)⟩) | refine Weak.mk ?_ ?_ ?_ ?_ ?_ | refine And.intro ?_ ?_ | with_reducible rfl | exact Nat.le_of_ble_eq_true rfl | refine fr1 ?_ | refine fr2 ?_ ?_ | refine AV.int_congr ?_ | refine AV.bool_congr ?_ | refine AV.str_congr ?_ | refine AV.list_congr ?_ | refine AV.bsl_congr ?_ ?_ | (apply rfl)
    · simp
    · simp only [List.nil_append, List.length_cons, List.length_nil, List.take_succ_cons, List.take_zero]
      rw [part_made (xs := tks tAction l 0) (sz := 3) rfl (by decide) (by simp [length_tks])]; rfl
  repeat' first
    | contradiction | exact trivial
    | (conv => whnf
       first | refine Need.mk (fun h => h) ?_ | refine Need.mk rfl ?_ | refine Need.mk ⟨rfl, Nat.le_of_ble_eq_true rfl⟩ ?_ | refine Need.mk (Nat.le_of_ble_eq_true rfl) ?_ | refine Need.fin ?_ | refine Need.mk ?_ ?_ | refine Ix.strsF rfl ?_ | refine Ix.strs rfl ?_ ?_ | refine Cut.strs rfl ?_ ?_ | refine Ix.mapF (fun _ => rfl) ?_ | refine Ix.map (fun _ => rfl) ?_ ?_ | refine Cut.map (fun _ => rfl) ?_ ?_ | refine Fork.yes (by assumption) ?_ | refine Fork.no (by assumption) ?_ | refine Fork.decYes (by omega) ?_ | refine Fork.decNo (by omega) ?_ | refine Fork.dec (fun _ => ?_) (fun _ => ?_) | refine Fork.bne (fun _ => ?_) (fun _ => ?_) | refine Fork.beq (fun _ => ?_) (fun _ => ?_) | refine Fork.seq (fun _ => ?_) (fun _ => ?_) | refine Fork.sne (fun _ => ?_) (fun _ => ?_) | refine Fork.neg (fun _ => ?_) (fun _ => ?_) | refine Fork.mk (fun _ => ?_) (fun _ => ?_) | refine HAlt.mk ?_ ?_ | apply HJoin.mk3 | exact HEnd.mk rfl rfl rfl | refine HEnd.mk ?_ ?_ ?_ | refine Round.mk ?_ | refine NilQ.mk (fun b hb => ?_) | refine forceK_of ?_ | refine forceBx_of ?_ | refine unG_old ?_ | refine unG_gv ?_ | refine Lit.read rfl ?_ | refine FinVal.keep ?_ | refine FinAgg.keep ?_ | refine Final.mk rfl rfl | refine Final.mk ?_ rfl | refine Final.mk ?_ ?_ | refine FinalT.mk ?_ ?_ | refine FinalC.allA ?_ | refine ACall.mk_Action _ _ (toAction.ret _ ?_) (by repeat' first | exact SeesL.nil | refine SeesL.cons ?_ ?_ | exact SeesB.of0 (Sees0.val _) | exact SeesB.of0 (Sees0.str _) | exact SeesB.of0 (Sees0.olds _ _) | exact SeesB.of0 (Sees0.old _) | exact SeesB.of0 (Sees0.oldagg _) | exact SeesB.of0 Sees0.nil | exact Sees0.val _ | exact Sees0.str _ | exact Sees0.olds _ _ | exact Sees0.old _ | exact Sees0.oldagg _ | exact Sees0.nil | exact SeesB.of0 (Sees0.any _) | assumption | exact sees_gv _ _ _ (by assumption) (by first | assumption | exact BoxIn.last _ _ | exact BoxIn.more (BoxIn.last _ _) _) | refine SeesB.agg ?_ | refine Sees0.agg ?_ | exact SeesB.of0 (Sees0.clo SeesL.nil SeesL.nil) | exact Sees0.clo SeesL.nil SeesL.nil | exact SeesB.of0 (Sees0.list rfl) | exact Sees0.list rfl) ?_)
    | refine AV.bool_congr ?_ | refine AV.int_congr ?_ | refine AV.str_congr ?_ | refine AV.list_congr ?_ | with_reducible rfl | refine fr1 ?_ | refine fr2 ?_ ?_
  · rename_i h1
    rw [length_rows] at h1
    have := listSize_mem tAction (List.mem_of_getElem? (tAction_get (l := l) (i := i) (by omega)))
    rw [Int.toNat_natCast]; omega
  · rename_i h1
    rw [length_rows] at h1
    rw [part_len (sz := 3) rfl (tks_sz tAction l 0) (by rw [length_tks]; exact hi), Int.toNat_natCast, length_tks]
    exact ⟨rfl, by omega⟩
  · rename_i h1
    rw [length_rows] at h1
    refine ⟨i + 1, by omega, ?_, by omega⟩
    repeat' first
      | exact trivial | refine Weak.mk ?_ ?_ ?_ ?_ (Or.inl (Nat.le_of_ble_eq_true rfl)) | refine Weak.mk ?_ ?_ ?_ ?_ (Or.inr ⟨(by repeat' first | exact trivial | exact Nat.le_of_ble_eq_true rfl | refine And.intro ?_ ?_), (by repeat' first | exact trivial | exact Nat.le_of_ble_eq_true rfl | refine And.intro ?_ ?_)⟩) | refine Weak.mk ?_ ?_ ?_ ?_ ?_ | refine And.intro ?_ ?_ | with_reducible rfl | exact Nat.le_of_ble_eq_true rfl | refine fr1 ?_ | refine fr2 ?_ ?_ | refine AV.int_congr ?_ | refine AV.bool_congr ?_ | refine AV.str_congr ?_ | refine AV.list_congr ?_ | refine AV.bsl_congr ?_ ?_ | (apply rfl)
    · rw [wrap64 (by omega) (by omega)]; rfl
    · have := part_set (z := [.val (.int .i64 0), .str [], .val (.slice none 0 0)]) (sz := 3) rfl (tks_sz tAction l 0) (tks_get tAction 0 (tAction_get (l := l) (i := i) (by omega)))
      rw [Nat.zero_add] at this
      simp only [List.set_cons_zero, List.take_succ_cons, List.take_zero, List.length_cons, List.length_nil, Int.toNat_natCast, this]
    · show frs tAction (l.take i) ++ tAction.fr (l.getD (i : Int).toNat default) = frs tAction (l.take (i + 1))
      rw [Int.toNat_natCast, take_succ' default (by omega), frs_append]; simp [frs]
  · rename_i h1
    rw [length_rows] at h1
    conv => whnf
    have : i = l.length := by omega
    subst this
    have hall := part_all [.val (.int .i64 0), .str [], .val (.slice none 0 0)] (tks tAction l 0)
    rw [length_tks] at hall
    refine FreezeD.flat (Freeze.mk (tks tAction l 0) _ 58 3 rfl hall (length_tks _ _ _) (tks_sz tAction l 0) (fun c hc => ?_) ?_)
    · rw [hall] at hc; exact tks_nr tAction l 0 c hc
    · refine Final.mk ?_ ?_
      · rw [List.take_length, Nat.zero_add]
      · rw [List.take_length]; rfl
theorem szActionS.ret (l : List VAction) (a : Int) (h0 : 0 ≤ a) (ha : a ≤ 1048576) (hb : tActions.bd l) :
    szActionS.Ret [.list none (rows tAction l), .val (.int .i64 a)] (.val (.int .i64 (left a (tActions.size l)))) [] := by
  refine szActionS.of rfl ?_
  obtain ⟨hl, hb⟩ := hb
  have hw : IntKind.i64.wrap (a - ((rows tAction l).length : Int)) = a - l.length := by rw [length_rows]; exact wrap64 (by omega) (by omega)
  have hz := tActions_sz l
  repeat' first
    | contradiction | exact trivial
    | (conv => whnf
       first | refine Need.mk (fun h => h) ?_ | refine Need.mk rfl ?_ | refine Need.mk ⟨rfl, Nat.le_of_ble_eq_true rfl⟩ ?_ | refine Need.mk (Nat.le_of_ble_eq_true rfl) ?_ | refine Need.fin ?_ | refine Need.mk ?_ ?_ | refine Ix.strsF rfl ?_ | refine Ix.strs rfl ?_ ?_ | refine Cut.strs rfl ?_ ?_ | refine Ix.mapF (fun _ => rfl) ?_ | refine Ix.map (fun _ => rfl) ?_ ?_ | refine Cut.map (fun _ => rfl) ?_ ?_ | refine Fork.yes (by assumption) ?_ | refine Fork.no (by assumption) ?_ | refine Fork.decYes (by omega) ?_ | refine Fork.decNo (by omega) ?_ | refine Fork.dec (fun _ => ?_) (fun _ => ?_) | refine Fork.bne (fun _ => ?_) (fun _ => ?_) | refine Fork.beq (fun _ => ?_) (fun _ => ?_) | refine Fork.seq (fun _ => ?_) (fun _ => ?_) | refine Fork.sne (fun _ => ?_) (fun _ => ?_) | refine Fork.neg (fun _ => ?_) (fun _ => ?_) | refine Fork.mk (fun _ => ?_) (fun _ => ?_) | refine HAlt.mk ?_ ?_ | apply HJoin.mk3 | exact HEnd.mk rfl rfl rfl | refine HEnd.mk ?_ ?_ ?_ | refine Round.mk ?_ | refine NilQ.mk (fun b hb => ?_) | refine forceK_of ?_ | refine forceBx_of ?_ | refine unG_old ?_ | refine unG_gv ?_ | refine Lit.read rfl ?_ | refine FinVal.keep ?_ | refine FinAgg.keep ?_ | refine Final.mk rfl rfl | refine Final.mk ?_ rfl | refine Final.mk ?_ ?_ | refine FinalT.mk ?_ ?_ | refine FinalC.allA ?_)
    | refine AV.bool_congr ?_ | refine AV.int_congr ?_ | refine AV.str_congr ?_ | refine AV.list_congr ?_ | with_reducible rfl | refine fr1 ?_ | refine fr2 ?_ ?_
  · rename_i h
    rw [hw] at h
    rw [left, if_pos (by omega)]
  rename_i h
  rw [hw] at h
  repeat' first
    | contradiction | exact trivial
    | (conv => whnf
       first | refine Need.mk (fun h => h) ?_ | refine Need.mk rfl ?_ | refine Need.mk ⟨rfl, Nat.le_of_ble_eq_true rfl⟩ ?_ | refine Need.mk (Nat.le_of_ble_eq_true rfl) ?_ | refine Need.fin ?_ | refine Need.mk ?_ ?_ | refine Ix.strsF rfl ?_ | refine Ix.strs rfl ?_ ?_ | refine Cut.strs rfl ?_ ?_ | refine Ix.mapF (fun _ => rfl) ?_ | refine Ix.map (fun _ => rfl) ?_ ?_ | refine Cut.map (fun _ => rfl) ?_ ?_ | refine Fork.yes (by assumption) ?_ | refine Fork.no (by assumption) ?_ | refine Fork.decYes (by omega) ?_ | refine Fork.decNo (by omega) ?_ | refine Fork.dec (fun _ => ?_) (fun _ => ?_) | refine Fork.bne (fun _ => ?_) (fun _ => ?_) | refine Fork.beq (fun _ => ?_) (fun _ => ?_) | refine Fork.seq (fun _ => ?_) (fun _ => ?_) | refine Fork.sne (fun _ => ?_) (fun _ => ?_) | refine Fork.neg (fun _ => ?_) (fun _ => ?_) | refine Fork.mk (fun _ => ?_) (fun _ => ?_) | refine HAlt.mk ?_ ?_ | apply HJoin.mk3 | exact HEnd.mk rfl rfl rfl | refine HEnd.mk ?_ ?_ ?_ | refine Round.mk ?_ | refine NilQ.mk (fun b hb => ?_) | refine forceK_of ?_ | refine forceBx_of ?_ | refine unG_old ?_ | refine unG_gv ?_ | refine Lit.read rfl ?_ | refine FinVal.keep ?_ | refine FinAgg.keep ?_ | refine Final.mk rfl rfl | refine Final.mk ?_ rfl | refine Final.mk ?_ ?_ | refine FinalT.mk ?_ ?_ | refine FinalC.allA ?_)
    | refine AV.bool_congr ?_ | refine AV.int_congr ?_ | refine AV.str_congr ?_ | refine AV.list_congr ?_ | with_reducible rfl | refine fr1 ?_ | refine fr2 ?_ ?_
  refine ALoop.mk Nat (fun i => ⟨[(0, .list none (rows tAction l)), (1, .val (.int .i64 (a - l.length - listSize tAction (l.take i)))), (5, .val (.int .i64 i))], [], []⟩) (fun i => i ≤ l.length ∧ (0 : Int) ≤ a - l.length - listSize tAction (l.take i)) (fun i => l.length - i) ⟨0, ⟨Nat.zero_le _, by simp [listSize]; omega⟩, ?_⟩ (fun i hi => ?_)
  · repeat' first
      | exact trivial | refine Weak.mk ?_ ?_ ?_ ?_ (Or.inl (Nat.le_of_ble_eq_true rfl)) | refine Weak.mk ?_ ?_ ?_ ?_ (Or.inr ⟨(by repeat' first | exact trivial | exact Nat.le_of_ble_eq_true rfl | refine And.intro ?_ ?_), (by repeat' first | exact trivial | exact Nat.le_of_ble_eq_true rfl | refine And.intro ?_ ?_)⟩) | refine Weak.mk ?_ ?_ ?_ ?_ ?_ | refine And.intro ?_ ?_ | with_reducible rfl | exact Nat.le_of_ble_eq_true rfl | refine fr1 ?_ | refine fr2 ?_ ?_ | refine AV.int_congr ?_ | refine AV.bool_congr ?_ | refine AV.str_congr ?_ | refine AV.list_congr ?_ | refine AV.bsl_congr ?_ ?_ | (apply rfl)
    rw [hw]; simp [listSize]
  obtain ⟨hp1, hp2⟩ := hi
  have hle := listSize_take_le tAction l (i + 1)
  have hbi : i < l.length → tAction.bd (l.getD i default) := fun h => hb _ (List.mem_of_getElem? (tAction_get h))
  have hsz : i < l.length → listSize tAction (l.take (i + 1)) = listSize tAction (l.take i) + tAction.size (l.getD i default) := fun h => listSize_take_succ tAction (tAction_get h)
  repeat' first
    | contradiction | exact trivial
    | (conv => whnf
       first | refine Need.mk (fun h => h) ?_ | refine Need.mk rfl ?_ | refine Need.mk ⟨rfl, Nat.le_of_ble_eq_true rfl⟩ ?_ | refine Need.mk (Nat.le_of_ble_eq_true rfl) ?_ | refine Need.fin ?_ | refine Need.mk ?_ ?_ | refine Ix.strsF rfl ?_ | refine Ix.strs rfl ?_ ?_ | refine Cut.strs rfl ?_ ?_ | refine Ix.mapF (fun _ => rfl) ?_ | refine Ix.map (fun _ => rfl) ?_ ?_ | refine Cut.map (fun _ => rfl) ?_ ?_ | refine Fork.yes (by assumption) ?_ | refine Fork.no (by assumption) ?_ | refine Fork.decYes (by omega) ?_ | refine Fork.decNo (by omega) ?_ | refine Fork.dec (fun _ => ?_) (fun _ => ?_) | refine Fork.bne (fun _ => ?_) (fun _ => ?_) | refine Fork.beq (fun _ => ?_) (fun _ => ?_) | refine Fork.seq (fun _ => ?_) (fun _ => ?_) | refine Fork.sne (fun _ => ?_) (fun _ => ?_) | refine Fork.neg (fun _ => ?_) (fun _ => ?_) | refine Fork.mk (fun _ => ?_) (fun _ => ?_) | refine HAlt.mk ?_ ?_ | apply HJoin.mk3 | exact HEnd.mk rfl rfl rfl | refine HEnd.mk ?_ ?_ ?_ | refine Round.mk ?_ | refine NilQ.mk (fun b hb => ?_) | refine forceK_of ?_ | refine forceBx_of ?_ | refine unG_old ?_ | refine unG_gv ?_ | refine Lit.read rfl ?_ | refine FinVal.keep ?_ | refine FinAgg.keep ?_ | refine Final.mk rfl rfl | refine Final.mk ?_ rfl | refine Final.mk ?_ ?_ | refine FinalT.mk ?_ ?_ | refine FinalC.allA ?_ | refine ACall.scalA _ _ (szAction.ret _ _ ?_ ?_ ?_) rfl ?_ | refine AQCall.mkA _ _ (fun hg => szAction.ret _ _ ?_ ?_ ?_) rfl ?_ | refine AGCall.mkA _ _ (fun hg => szAction.ret _ _ ?_ ?_ ?_) rfl ?_)
    | refine AV.bool_congr ?_ | refine AV.int_congr ?_ | refine AV.str_congr ?_ | refine AV.list_congr ?_ | with_reducible rfl | refine fr1 ?_ | refine fr2 ?_ ?_
  · exact hp2
  · omega
  · rename_i h1
    rw [length_rows] at h1
    rw [Int.toNat_natCast]; exact hbi (by omega)
  · rename_i h1 h2
    rw [length_rows] at h1
    rw [Int.toNat_natCast] at h2
    have := hsz (by omega)
    unfold left at h2 ⊢
    split at h2
    · rw [if_pos (by omega)]
    · omega
  · rename_i h1 h2
    rw [length_rows] at h1
    rw [Int.toNat_natCast] at h2
    have := hsz (by omega)
    have e : left (a - ↑l.length - ↑(listSize tAction (l.take i))) (tAction.size (l.getD i default)) = a - ↑l.length - ↑(listSize tAction (l.take (i + 1))) := by
      unfold left at h2 ⊢
      split at h2
      · omega
      · rw [if_neg ‹_›]; omega
    refine ⟨i + 1, ⟨by omega, ?_⟩, ?_, by omega⟩
    · rw [← e]; omega
    · repeat' first
        | exact trivial | refine Weak.mk ?_ ?_ ?_ ?_ (Or.inl (Nat.le_of_ble_eq_true rfl)) | refine Weak.mk ?_ ?_ ?_ ?_ (Or.inr ⟨(by repeat' first | exact trivial | exact Nat.le_of_ble_eq_true rfl | refine And.intro ?_ ?_), (by repeat' first | exact trivial | exact Nat.le_of_ble_eq_true rfl | refine And.intro ?_ ?_)⟩) | refine Weak.mk ?_ ?_ ?_ ?_ ?_ | refine And.intro ?_ ?_ | with_reducible rfl | exact Nat.le_of_ble_eq_true rfl | refine fr1 ?_ | refine fr2 ?_ ?_ | refine AV.int_congr ?_ | refine AV.bool_congr ?_ | refine AV.str_congr ?_ | refine AV.list_congr ?_ | refine AV.bsl_congr ?_ ?_ | (apply rfl)
      · rw [Int.toNat_natCast]; exact e
      · rw [wrap64 (by omega) (by omega)]; rfl
  · rename_i h1
    rw [length_rows] at h1
    rw [List.take_of_length_le (by omega)] at hp2 ⊢
    rw [left, if_neg (by omega)]; omega
theorem eqActionS.big (l m : List VAction) (h : tActions.size l ≤ 1099511627775) : eqActionS.Ret [.list none (rows tAction l), .list none (rows tAction m)] (.val (.bool (decide (l = m)))) [] := by
  refine eqActionS.of rfl ?_
  rw [tActions_sz] at h
  repeat' first
    | contradiction | exact trivial
    | (conv => whnf
       first | refine Need.mk (fun h => h) ?_ | refine Need.mk rfl ?_ | refine Need.mk ⟨rfl, Nat.le_of_ble_eq_true rfl⟩ ?_ | refine Need.mk (Nat.le_of_ble_eq_true rfl) ?_ | refine Need.fin ?_ | refine Need.mk ?_ ?_ | refine Ix.strsF rfl ?_ | refine Ix.strs rfl ?_ ?_ | refine Cut.strs rfl ?_ ?_ | refine Ix.mapF (fun _ => rfl) ?_ | refine Ix.map (fun _ => rfl) ?_ ?_ | refine Cut.map (fun _ => rfl) ?_ ?_ | refine Fork.yes (by assumption) ?_ | refine Fork.no (by assumption) ?_ | refine Fork.decYes (by omega) ?_ | refine Fork.decNo (by omega) ?_ | refine Fork.dec (fun _ => ?_) (fun _ => ?_) | refine Fork.bne (fun _ => ?_) (fun _ => ?_) | refine Fork.beq (fun _ => ?_) (fun _ => ?_) | refine Fork.seq (fun _ => ?_) (fun _ => ?_) | refine Fork.sne (fun _ => ?_) (fun _ => ?_) | refine Fork.neg (fun _ => ?_) (fun _ => ?_) | refine Fork.mk (fun _ => ?_) (fun _ => ?_) | refine HAlt.mk ?_ ?_ | apply HJoin.mk3 | exact HEnd.mk rfl rfl rfl | refine HEnd.mk ?_ ?_ ?_ | refine Round.mk ?_ | refine NilQ.mk (fun b hb => ?_) | refine forceK_of ?_ | refine forceBx_of ?_ | refine unG_old ?_ | refine unG_gv ?_ | refine Lit.read rfl ?_ | refine FinVal.keep ?_ | refine FinAgg.keep ?_ | refine Final.mk rfl rfl | refine Final.mk ?_ rfl | refine Final.mk ?_ ?_ | refine FinalT.mk ?_ ?_ | refine FinalC.allA ?_)
    | refine AV.bool_congr ?_ | refine AV.int_congr ?_ | refine AV.str_congr ?_ | refine AV.list_congr ?_ | with_reducible rfl | refine fr1 ?_ | refine fr2 ?_ ?_
  · rename_i h
    rw [length_rows, length_rows] at h
    have h3 : ¬ l = m := fun e => h (by rw [e])
    simp [h3]
  rename_i h
  rw [length_rows, length_rows] at h
  have h : l.length = m.length := by omega
  repeat' first
    | contradiction | exact trivial
    | (conv => whnf
       first | refine Need.mk (fun h => h) ?_ | refine Need.mk rfl ?_ | refine Need.mk ⟨rfl, Nat.le_of_ble_eq_true rfl⟩ ?_ | refine Need.mk (Nat.le_of_ble_eq_true rfl) ?_ | refine Need.fin ?_ | refine Need.mk ?_ ?_ | refine Ix.strsF rfl ?_ | refine Ix.strs rfl ?_ ?_ | refine Cut.strs rfl ?_ ?_ | refine Ix.mapF (fun _ => rfl) ?_ | refine Ix.map (fun _ => rfl) ?_ ?_ | refine Cut.map (fun _ => rfl) ?_ ?_ | refine Fork.yes (by assumption) ?_ | refine Fork.no (by assumption) ?_ | refine Fork.decYes (by omega) ?_ | refine Fork.decNo (by omega) ?_ | refine Fork.dec (fun _ => ?_) (fun _ => ?_) | refine Fork.bne (fun _ => ?_) (fun _ => ?_) | refine Fork.beq (fun _ => ?_) (fun _ => ?_) | refine Fork.seq (fun _ => ?_) (fun _ => ?_) | refine Fork.sne (fun _ => ?_) (fun _ => ?_) | refine Fork.neg (fun _ => ?_) (fun _ => ?_) | refine Fork.mk (fun _ => ?_) (fun _ => ?_) | refine HAlt.mk ?_ ?_ | apply HJoin.mk3 | exact HEnd.mk rfl rfl rfl | refine HEnd.mk ?_ ?_ ?_ | refine Round.mk ?_ | refine NilQ.mk (fun b hb => ?_) | refine forceK_of ?_ | refine forceBx_of ?_ | refine unG_old ?_ | refine unG_gv ?_ | refine Lit.read rfl ?_ | refine FinVal.keep ?_ | refine FinAgg.keep ?_ | refine Final.mk rfl rfl | refine Final.mk ?_ rfl | refine Final.mk ?_ ?_ | refine FinalT.mk ?_ ?_ | refine FinalC.allA ?_)
    | refine AV.bool_congr ?_ | refine AV.int_congr ?_ | refine AV.str_congr ?_ | refine AV.list_congr ?_ | with_reducible rfl | refine fr1 ?_ | refine fr2 ?_ ?_
  refine ALoop.mk Nat (fun i => ⟨[(0, .list none (rows tAction l)), (1, .list none (rows tAction m)), (5, .val (.int .i64 i))], [], []⟩) (fun i => i ≤ l.length ∧ l.take i = m.take i) (fun i => l.length - i) ⟨0, ⟨Nat.zero_le _, rfl⟩, ?_⟩ (fun i hi => ?_)
  · repeat' first
      | exact trivial | refine Weak.mk ?_ ?_ ?_ ?_ (Or.inl (Nat.le_of_ble_eq_true rfl)) | refine Weak.mk ?_ ?_ ?_ ?_ (Or.inr ⟨(by repeat' first | exact trivial | exact Nat.le_of_ble_eq_true rfl | refine And.intro ?_ ?_), (by repeat' first | exact trivial | exact Nat.le_of_ble_eq_true rfl | refine And.intro ?_ ?_)⟩) | refine Weak.mk ?_ ?_ ?_ ?_ ?_ | refine And.intro ?_ ?_ | with_reducible rfl | exact Nat.le_of_ble_eq_true rfl | refine fr1 ?_ | refine fr2 ?_ ?_ | refine AV.int_congr ?_ | refine AV.bool_congr ?_ | refine AV.str_congr ?_ | refine AV.list_congr ?_ | refine AV.bsl_congr ?_ ?_ | (apply rfl)
  repeat' first
    | contradiction | exact trivial
    | (conv => whnf
       first | refine Need.mk (fun h => h) ?_ | refine Need.mk rfl ?_ | refine Need.mk ⟨rfl, Nat.le_of_ble_eq_true rfl⟩ ?_ | refine Need.mk (Nat.le_of_ble_eq_true rfl) ?_ | refine Need.fin ?_ | refine Need.mk ?_ ?_ | refine Ix.strsF rfl ?_ | refine Ix.strs rfl ?_ ?_ | refine Cut.strs rfl ?_ ?_ | refine Ix.mapF (fun _ => rfl) ?_ | refine Ix.map (fun _ => rfl) ?_ ?_ | refine Cut.map (fun _ => rfl) ?_ ?_ | refine Fork.yes (by assumption) ?_ | refine Fork.no (by assumption) ?_ | refine Fork.decYes (by omega) ?_ | refine Fork.decNo (by omega) ?_ | refine Fork.dec (fun _ => ?_) (fun _ => ?_) | refine Fork.bne (fun _ => ?_) (fun _ => ?_) | refine Fork.beq (fun _ => ?_) (fun _ => ?_) | refine Fork.seq (fun _ => ?_) (fun _ => ?_) | refine Fork.sne (fun _ => ?_) (fun _ => ?_) | refine Fork.neg (fun _ => ?_) (fun _ => ?_) | refine Fork.mk (fun _ => ?_) (fun _ => ?_) | refine HAlt.mk ?_ ?_ | apply HJoin.mk3 | exact HEnd.mk rfl rfl rfl | refine HEnd.mk ?_ ?_ ?_ | refine Round.mk ?_ | refine NilQ.mk (fun b hb => ?_) | refine forceK_of ?_ | refine forceBx_of ?_ | refine unG_old ?_ | refine unG_gv ?_ | refine Lit.read rfl ?_ | refine FinVal.keep ?_ | refine FinAgg.keep ?_ | refine Final.mk rfl rfl | refine Final.mk ?_ rfl | refine Final.mk ?_ ?_ | refine FinalT.mk ?_ ?_ | refine FinalC.allA ?_ | refine ACall.scalA _ _ (eqAction.big _ _ ?_) rfl ?_ | refine AQCall.mkA _ _ (fun hg => eqAction.big _ _ ?_) rfl ?_ | refine AGCall.mkA _ _ (fun hg => eqAction.big _ _ ?_) rfl ?_)
    | refine AV.bool_congr ?_ | refine AV.int_congr ?_ | refine AV.str_congr ?_ | refine AV.list_congr ?_ | with_reducible rfl | refine fr1 ?_ | refine fr2 ?_ ?_
  · rename_i h1
    rw [length_rows] at h1
    have := listSize_mem tAction (List.mem_of_getElem? (tAction_get (l := l) (i := i) (by omega)))
    rw [Int.toNat_natCast]; omega
  · rename_i h1 h2
    have h3 : ¬ l = m := fun e => of_decide_eq_false h2 (by rw [e])
    simp [h3]
  · rename_i h1 h2
    rw [length_rows] at h1
    rw [Int.toNat_natCast] at h2
    refine ⟨i + 1, ⟨by omega, ?_⟩, ?_, by omega⟩
    · rw [take_succ' default (by omega), take_succ' (l := m) default (by omega), hi.2, of_decide_eq_true h2]
    · repeat' first
        | exact trivial | refine Weak.mk ?_ ?_ ?_ ?_ (Or.inl (Nat.le_of_ble_eq_true rfl)) | refine Weak.mk ?_ ?_ ?_ ?_ (Or.inr ⟨(by repeat' first | exact trivial | exact Nat.le_of_ble_eq_true rfl | refine And.intro ?_ ?_), (by repeat' first | exact trivial | exact Nat.le_of_ble_eq_true rfl | refine And.intro ?_ ?_)⟩) | refine Weak.mk ?_ ?_ ?_ ?_ ?_ | refine And.intro ?_ ?_ | with_reducible rfl | exact Nat.le_of_ble_eq_true rfl | refine fr1 ?_ | refine fr2 ?_ ?_ | refine AV.int_congr ?_ | refine AV.bool_congr ?_ | refine AV.str_congr ?_ | refine AV.list_congr ?_ | refine AV.bsl_congr ?_ ?_ | (apply rfl)
      rw [wrap64 (by omega) (by omega)]; rfl
  · rename_i h1
    rw [length_rows] at h1
    have h2 := hi.2
    rw [List.take_of_length_le (by omega), List.take_of_length_le (by omega)] at h2
    simp [h2]
end Go.Proofs.YtimcfgokocihnaaGreat
namespace Go.Proofs.YtimcfgokocihnaaGreat
open Abs
abbrev VRule := Str × Int × List VCond × List VAction
instance : DecidableEq VRule := instDecidableEqProd
def tRule : Ty VRule := Ty.pair Ty.str (Ty.pair Ty.int (Ty.pair tConds tActions))
theorem tRule_size (a : VRule) : tRule.size a = a.1.length + (0 + (tConds.size a.2.2.1 + tActions.size a.2.2.2)) := rfl
theorem toRule.ret (a : VRule) (h : tRule.size a ≤ 1048576) : toRule.Ret [.agg (oldL (tRule.q a))] (.agg (tRule.tk a 0)) (tRule.fr a) := by
  refine toRule.of rfl ?_
  rw [tRule_size] at h
  repeat' first
    | contradiction | exact trivial
    | (conv => whnf
       first | refine Need.mk (fun h => h) ?_ | refine Need.mk rfl ?_ | refine Need.mk ⟨rfl, Nat.le_of_ble_eq_true rfl⟩ ?_ | refine Need.mk (Nat.le_of_ble_eq_true rfl) ?_ | refine Need.fin ?_ | refine Need.mk ?_ ?_ | refine Ix.strsF rfl ?_ | refine Ix.strs rfl ?_ ?_ | refine Cut.strs rfl ?_ ?_ | refine Ix.mapF (fun _ => rfl) ?_ | refine Ix.map (fun _ => rfl) ?_ ?_ | refine Cut.map (fun _ => rfl) ?_ ?_ | refine Fork.yes (by assumption) ?_ | refine Fork.no (by assumption) ?_ | refine Fork.decYes (by omega) ?_ | refine Fork.decNo (by omega) ?_ | refine Fork.dec (fun _ => ?_) (fun _ => ?_) | refine Fork.bne (fun _ => ?_) (fun _ => ?_) | refine Fork.beq (fun _ => ?_) (fun _ => ?_) | refine Fork.seq (fun _ => ?_) (fun _ => ?_) | refine Fork.sne (fun _ => ?_) (fun _ => ?_) | refine Fork.neg (fun _ => ?_) (fun _ => ?_) | refine Fork.mk (fun _ => ?_) (fun _ => ?_) | refine HAlt.mk ?_ ?_ | apply HJoin.mk3 | exact HEnd.mk rfl rfl rfl | refine HEnd.mk ?_ ?_ ?_ | refine Round.mk ?_ | refine NilQ.mk (fun b hb => ?_) | refine forceK_of ?_ | refine forceBx_of ?_ | refine unG_old ?_ | refine unG_gv ?_ | refine Lit.read rfl ?_ | refine FinVal.keep ?_ | refine FinAgg.keep ?_ | refine Final.mk rfl rfl | refine Final.mk ?_ rfl | refine Final.mk ?_ ?_ | refine FinalT.mk ?_ ?_ | refine FinalC.allA ?_ | refine ACall.mk_CondS _ _ (toCondS.ret _ ?_) (by repeat' first | exact SeesL.nil | refine SeesL.cons ?_ ?_ | exact SeesB.of0 (Sees0.val _) | exact SeesB.of0 (Sees0.str _) | exact SeesB.of0 (Sees0.olds _ _) | exact SeesB.of0 (Sees0.old _) | exact SeesB.of0 (Sees0.oldagg _) | exact SeesB.of0 Sees0.nil | exact Sees0.val _ | exact Sees0.str _ | exact Sees0.olds _ _ | exact Sees0.old _ | exact Sees0.oldagg _ | exact Sees0.nil | exact SeesB.of0 (Sees0.any _) | assumption | exact sees_gv _ _ _ (by assumption) (by first | assumption | exact BoxIn.last _ _ | exact BoxIn.more (BoxIn.last _ _) _) | refine SeesB.agg ?_ | refine Sees0.agg ?_ | exact SeesB.of0 (Sees0.clo SeesL.nil SeesL.nil) | exact Sees0.clo SeesL.nil SeesL.nil | exact SeesB.of0 (Sees0.list rfl) | exact Sees0.list rfl) ?_ | refine ACall.mk_ActionS _ _ (toActionS.ret _ ?_) (by repeat' first | exact SeesL.nil | refine SeesL.cons ?_ ?_ | exact SeesB.of0 (Sees0.val _) | exact SeesB.of0 (Sees0.str _) | exact SeesB.of0 (Sees0.olds _ _) | exact SeesB.of0 (Sees0.old _) | exact SeesB.of0 (Sees0.oldagg _) | exact SeesB.of0 Sees0.nil | exact Sees0.val _ | exact Sees0.str _ | exact Sees0.olds _ _ | exact Sees0.old _ | exact Sees0.oldagg _ | exact Sees0.nil | exact SeesB.of0 (Sees0.any _) | assumption | exact sees_gv _ _ _ (by assumption) (by first | assumption | exact BoxIn.last _ _ | exact BoxIn.more (BoxIn.last _ _) _) | refine SeesB.agg ?_ | refine Sees0.agg ?_ | exact SeesB.of0 (Sees0.clo SeesL.nil SeesL.nil) | exact Sees0.clo SeesL.nil SeesL.nil | exact SeesB.of0 (Sees0.list rfl) | exact Sees0.list rfl) ?_)
    | refine AV.bool_congr ?_ | refine AV.int_congr ?_ | refine AV.str_congr ?_ | refine AV.list_congr ?_ | with_reducible rfl | refine fr1 ?_ | refine fr2 ?_ ?_
  all_goals first
    | omega
    | (refine congrArg AV.agg ?_
       repeat' first
         | refine cons_congr ?_ ?_
         | refine tok_congr ?_ ?_
         | refine congrArg (tks _ _) ?_
         | rfl
       all_goals (simp [Ty.pair, Ty.str, Ty.int, Ty.bool, Nat.add_assoc]; done))
    | (simp [tRule, Ty.pair, Ty.str, Ty.int, Ty.bool, List.append_assoc, Nat.add_assoc]; done)
theorem toRule.own (a : VRule) (h : tRule.size a ≤ 1048576) : toRule.Own [.agg (oldL (tRule.q a))] (.a (tRule.q a)) := Ty.ownA tRule (toRule.ret a h)
theorem szRule.ret (f : VRule) (a : Int) (h0 : 0 ≤ a) (ha : a ≤ 1048576) (hb : tRule.bd f) :
    szRule.Ret [.agg (oldL (tRule.q f)), .val (.int .i64 a)] (.val (.int .i64 (left a (tRule.size f)))) [] := by
  refine szRule.of rfl ?_
  have hz := tRule_size f
  obtain ⟨hb0, hb1, hb2, hb3⟩ := hb
  have hb0 : f.1.length ≤ 9223372036854775807 := hb0
  by_cases c1 : a < (f.1.length : Int)
  · have e0 : IntKind.i64.wrap (a - (f.1.length : Int)) = a - (f.1.length : Int) := by rw [wrap64 (by omega) (by omega)]
    repeat' first
      | contradiction | exact trivial
      | (conv => whnf
         first | refine Need.mk (fun h => h) ?_ | refine Need.mk rfl ?_ | refine Need.mk ⟨rfl, Nat.le_of_ble_eq_true rfl⟩ ?_ | refine Need.mk (Nat.le_of_ble_eq_true rfl) ?_ | refine Need.fin ?_ | refine Need.mk ?_ ?_ | refine Ix.strsF rfl ?_ | refine Ix.strs rfl ?_ ?_ | refine Cut.strs rfl ?_ ?_ | refine Ix.mapF (fun _ => rfl) ?_ | refine Ix.map (fun _ => rfl) ?_ ?_ | refine Cut.map (fun _ => rfl) ?_ ?_ | refine Fork.yes (by assumption) ?_ | refine Fork.no (by assumption) ?_ | refine Fork.decYes (by omega) ?_ | refine Fork.decNo (by omega) ?_ | refine Fork.dec (fun _ => ?_) (fun _ => ?_) | refine Fork.bne (fun _ => ?_) (fun _ => ?_) | refine Fork.beq (fun _ => ?_) (fun _ => ?_) | refine Fork.seq (fun _ => ?_) (fun _ => ?_) | refine Fork.sne (fun _ => ?_) (fun _ => ?_) | refine Fork.neg (fun _ => ?_) (fun _ => ?_) | refine Fork.mk (fun _ => ?_) (fun _ => ?_) | refine HAlt.mk ?_ ?_ | apply HJoin.mk3 | exact HEnd.mk rfl rfl rfl | refine HEnd.mk ?_ ?_ ?_ | refine Round.mk ?_ | refine NilQ.mk (fun b hb => ?_) | refine forceK_of ?_ | refine forceBx_of ?_ | refine unG_old ?_ | refine unG_gv ?_ | refine Lit.read rfl ?_ | refine FinVal.keep ?_ | refine FinAgg.keep ?_ | refine Final.mk rfl rfl | refine Final.mk ?_ rfl | refine Final.mk ?_ ?_ | refine FinalT.mk ?_ ?_ | refine FinalC.allA ?_ | refine ACall.scalA _ _ (szCondS.ret _ _ ?_ ?_ ?_) rfl ?_ | refine AQCall.mkA _ _ (fun hg => szCondS.ret _ _ ?_ ?_ ?_) rfl ?_ | refine AGCall.mkA _ _ (fun hg => szCondS.ret _ _ ?_ ?_ ?_) rfl ?_ | refine ACall.scalA _ _ (szActionS.ret _ _ ?_ ?_ ?_) rfl ?_ | refine AQCall.mkA _ _ (fun hg => szActionS.ret _ _ ?_ ?_ ?_) rfl ?_ | refine AGCall.mkA _ _ (fun hg => szActionS.ret _ _ ?_ ?_ ?_) rfl ?_)
      | refine AV.bool_congr ?_ | refine AV.int_congr ?_ | refine AV.str_congr ?_ | refine AV.list_congr ?_ | with_reducible rfl | refine fr1 ?_ | refine fr2 ?_ ?_
    all_goals first
      | assumption
      | omega
      | exact left_eq (by omega)
  by_cases c2 : a < (f.1.length : Int) + (tConds.size f.2.2.1 : Int)
  · have e0 : IntKind.i64.wrap (a - (f.1.length : Int)) = a - (f.1.length : Int) := by rw [wrap64 (by omega) (by omega)]
    have e1 : left (IntKind.i64.wrap (a - (f.1.length : Int))) (tConds.size f.2.2.1) = -1 := by rw [e0, left, if_pos (by omega)]
    repeat' first
      | contradiction | exact trivial
      | (conv => whnf
         first | refine Need.mk (fun h => h) ?_ | refine Need.mk rfl ?_ | refine Need.mk ⟨rfl, Nat.le_of_ble_eq_true rfl⟩ ?_ | refine Need.mk (Nat.le_of_ble_eq_true rfl) ?_ | refine Need.fin ?_ | refine Need.mk ?_ ?_ | refine Ix.strsF rfl ?_ | refine Ix.strs rfl ?_ ?_ | refine Cut.strs rfl ?_ ?_ | refine Ix.mapF (fun _ => rfl) ?_ | refine Ix.map (fun _ => rfl) ?_ ?_ | refine Cut.map (fun _ => rfl) ?_ ?_ | refine Fork.yes (by assumption) ?_ | refine Fork.no (by assumption) ?_ | refine Fork.decYes (by omega) ?_ | refine Fork.decNo (by omega) ?_ | refine Fork.dec (fun _ => ?_) (fun _ => ?_) | refine Fork.bne (fun _ => ?_) (fun _ => ?_) | refine Fork.beq (fun _ => ?_) (fun _ => ?_) | refine Fork.seq (fun _ => ?_) (fun _ => ?_) | refine Fork.sne (fun _ => ?_) (fun _ => ?_) | refine Fork.neg (fun _ => ?_) (fun _ => ?_) | refine Fork.mk (fun _ => ?_) (fun _ => ?_) | refine HAlt.mk ?_ ?_ | apply HJoin.mk3 | exact HEnd.mk rfl rfl rfl | refine HEnd.mk ?_ ?_ ?_ | refine Round.mk ?_ | refine NilQ.mk (fun b hb => ?_) | refine forceK_of ?_ | refine forceBx_of ?_ | refine unG_old ?_ | refine unG_gv ?_ | refine Lit.read rfl ?_ | refine FinVal.keep ?_ | refine FinAgg.keep ?_ | refine Final.mk rfl rfl | refine Final.mk ?_ rfl | refine Final.mk ?_ ?_ | refine FinalT.mk ?_ ?_ | refine FinalC.allA ?_ | refine ACall.scalA _ _ (szCondS.ret _ _ ?_ ?_ ?_) rfl ?_ | refine AQCall.mkA _ _ (fun hg => szCondS.ret _ _ ?_ ?_ ?_) rfl ?_ | refine AGCall.mkA _ _ (fun hg => szCondS.ret _ _ ?_ ?_ ?_) rfl ?_ | refine ACall.scalA _ _ (szActionS.ret _ _ ?_ ?_ ?_) rfl ?_ | refine AQCall.mkA _ _ (fun hg => szActionS.ret _ _ ?_ ?_ ?_) rfl ?_ | refine AGCall.mkA _ _ (fun hg => szActionS.ret _ _ ?_ ?_ ?_) rfl ?_)
      | refine AV.bool_congr ?_ | refine AV.int_congr ?_ | refine AV.str_congr ?_ | refine AV.list_congr ?_ | with_reducible rfl | refine fr1 ?_ | refine fr2 ?_ ?_
    all_goals first
      | assumption
      | omega
      | exact left_eq (by omega)
  by_cases c3 : a < (f.1.length : Int) + (tConds.size f.2.2.1 : Int) + (tActions.size f.2.2.2 : Int)
  · have e0 : IntKind.i64.wrap (a - (f.1.length : Int)) = a - (f.1.length : Int) := by rw [wrap64 (by omega) (by omega)]
    have e1 : left (IntKind.i64.wrap (a - (f.1.length : Int))) (tConds.size f.2.2.1) = a - (f.1.length : Int) - (tConds.size f.2.2.1 : Int) := by rw [e0, left, if_neg (by omega)]
    have e2 : left (left (IntKind.i64.wrap (a - (f.1.length : Int))) (tConds.size f.2.2.1)) (tActions.size f.2.2.2) = -1 := by rw [e1, left, if_pos (by omega)]
    repeat' first
      | contradiction | exact trivial
      | (conv => whnf
         first | refine Need.mk (fun h => h) ?_ | refine Need.mk rfl ?_ | refine Need.mk ⟨rfl, Nat.le_of_ble_eq_true rfl⟩ ?_ | refine Need.mk (Nat.le_of_ble_eq_true rfl) ?_ | refine Need.fin ?_ | refine Need.mk ?_ ?_ | refine Ix.strsF rfl ?_ | refine Ix.strs rfl ?_ ?_ | refine Cut.strs rfl ?_ ?_ | refine Ix.mapF (fun _ => rfl) ?_ | refine Ix.map (fun _ => rfl) ?_ ?_ | refine Cut.map (fun _ => rfl) ?_ ?_ | refine Fork.yes (by assumption) ?_ | refine Fork.no (by assumption) ?_ | refine Fork.decYes (by omega) ?_ | refine Fork.decNo (by omega) ?_ | refine Fork.dec (fun _ => ?_) (fun _ => ?_) | refine Fork.bne (fun _ => ?_) (fun _ => ?_) | refine Fork.beq (fun _ => ?_) (fun _ => ?_) | refine Fork.seq (fun _ => ?_) (fun _ => ?_) | refine Fork.sne (fun _ => ?_) (fun _ => ?_) | refine Fork.neg (fun _ => ?_) (fun _ => ?_) | refine Fork.mk (fun _ => ?_) (fun _ => ?_) | refine HAlt.mk ?_ ?_ | apply HJoin.mk3 | exact HEnd.mk rfl rfl rfl | refine HEnd.mk ?_ ?_ ?_ | refine Round.mk ?_ | refine NilQ.mk (fun b hb => ?_) | refine forceK_of ?_ | refine forceBx_of ?_ | refine unG_old ?_ | refine unG_gv ?_ | refine Lit.read rfl ?_ | refine FinVal.keep ?_ | refine FinAgg.keep ?_ | refine Final.mk rfl rfl | refine Final.mk ?_ rfl | refine Final.mk ?_ ?_ | refine FinalT.mk ?_ ?_ | refine FinalC.allA ?_ | refine ACall.scalA _ _ (szCondS.ret _ _ ?_ ?_ ?_) rfl ?_ | refine AQCall.mkA _ _ (fun hg => szCondS.ret _ _ ?_ ?_ ?_) rfl ?_ | refine AGCall.mkA _ _ (fun hg => szCondS.ret _ _ ?_ ?_ ?_) rfl ?_ | refine ACall.scalA _ _ (szActionS.ret _ _ ?_ ?_ ?_) rfl ?_ | refine AQCall.mkA _ _ (fun hg => szActionS.ret _ _ ?_ ?_ ?_) rfl ?_ | refine AGCall.mkA _ _ (fun hg => szActionS.ret _ _ ?_ ?_ ?_) rfl ?_)
      | refine AV.bool_congr ?_ | refine AV.int_congr ?_ | refine AV.str_congr ?_ | refine AV.list_congr ?_ | with_reducible rfl | refine fr1 ?_ | refine fr2 ?_ ?_
    all_goals first
      | assumption
      | omega
      | exact left_eq (by omega)
  have e0 : IntKind.i64.wrap (a - (f.1.length : Int)) = a - (f.1.length : Int) := by rw [wrap64 (by omega) (by omega)]
  have e1 : left (IntKind.i64.wrap (a - (f.1.length : Int))) (tConds.size f.2.2.1) = a - (f.1.length : Int) - (tConds.size f.2.2.1 : Int) := by rw [e0, left, if_neg (by omega)]
  have e2 : left (left (IntKind.i64.wrap (a - (f.1.length : Int))) (tConds.size f.2.2.1)) (tActions.size f.2.2.2) = a - (f.1.length : Int) - (tConds.size f.2.2.1 : Int) - (tActions.size f.2.2.2 : Int) := by rw [e1, left, if_neg (by omega)]
  repeat' first
    | contradiction | exact trivial
    | (conv => whnf
       first | refine Need.mk (fun h => h) ?_ | refine Need.mk rfl ?_ | refine Need.mk ⟨rfl, Nat.le_of_ble_eq_true rfl⟩ ?_ | refine Need.mk (Nat.le_of_ble_eq_true rfl) ?_ | refine Need.fin ?_ | refine Need.mk ?_ ?_ | refine Ix.strsF rfl ?_ | refine Ix.strs rfl ?_ ?_ | refine Cut.strs rfl ?_ ?_ | refine Ix.mapF (fun _ => rfl) ?_ | refine Ix.map (fun _ => rfl) ?_ ?_ | refine Cut.map (fun _ => rfl) ?_ ?_ | refine Fork.yes (by assumption) ?_ | refine Fork.no (by assumption) ?_ | refine Fork.decYes (by omega) ?_ | refine Fork.decNo (by omega) ?_ | refine Fork.dec (fun _ => ?_) (fun _ => ?_) | refine Fork.bne (fun _ => ?_) (fun _ => ?_) | refine Fork.beq (fun _ => ?_) (fun _ => ?_) | refine Fork.seq (fun _ => ?_) (fun _ => ?_) | refine Fork.sne (fun _ => ?_) (fun _ => ?_) | refine Fork.neg (fun _ => ?_) (fun _ => ?_) | refine Fork.mk (fun _ => ?_) (fun _ => ?_) | refine HAlt.mk ?_ ?_ | apply HJoin.mk3 | exact HEnd.mk rfl rfl rfl | refine HEnd.mk ?_ ?_ ?_ | refine Round.mk ?_ | refine NilQ.mk (fun b hb => ?_) | refine forceK_of ?_ | refine forceBx_of ?_ | refine unG_old ?_ | refine unG_gv ?_ | refine Lit.read rfl ?_ | refine FinVal.keep ?_ | refine FinAgg.keep ?_ | refine Final.mk rfl rfl | refine Final.mk ?_ rfl | refine Final.mk ?_ ?_ | refine FinalT.mk ?_ ?_ | refine FinalC.allA ?_ | refine ACall.scalA _ _ (szCondS.ret _ _ ?_ ?_ ?_) rfl ?_ | refine AQCall.mkA _ _ (fun hg => szCondS.ret _ _ ?_ ?_ ?_) rfl ?_ | refine AGCall.mkA _ _ (fun hg => szCondS.ret _ _ ?_ ?_ ?_) rfl ?_ | refine ACall.scalA _ _ (szActionS.ret _ _ ?_ ?_ ?_) rfl ?_ | refine AQCall.mkA _ _ (fun hg => szActionS.ret _ _ ?_ ?_ ?_) rfl ?_ | refine AGCall.mkA _ _ (fun hg => szActionS.ret _ _ ?_ ?_ ?_) rfl ?_)
    | refine AV.bool_congr ?_ | refine AV.int_congr ?_ | refine AV.str_congr ?_ | refine AV.list_congr ?_ | with_reducible rfl | refine fr1 ?_ | refine fr2 ?_ ?_
  all_goals first
    | assumption
    | omega
    | exact left_eq (by omega)
theorem eqRule.big (f g : VRule) (h : tRule.size f ≤ 1099511627775) : eqRule.Ret [.agg (oldL (tRule.q f)), .agg (oldL (tRule.q g))] (.val (.bool (decide (f = g)))) [] := by
  refine eqRule.of rfl ?_
  have hz := tRule_size f
  repeat' first
    | contradiction | exact trivial
    | (conv => whnf
       first | refine Need.mk (fun h => h) ?_ | refine Need.mk rfl ?_ | refine Need.mk ⟨rfl, Nat.le_of_ble_eq_true rfl⟩ ?_ | refine Need.mk (Nat.le_of_ble_eq_true rfl) ?_ | refine Need.fin ?_ | refine Need.mk ?_ ?_ | refine Ix.strsF rfl ?_ | refine Ix.strs rfl ?_ ?_ | refine Cut.strs rfl ?_ ?_ | refine Ix.mapF (fun _ => rfl) ?_ | refine Ix.map (fun _ => rfl) ?_ ?_ | refine Cut.map (fun _ => rfl) ?_ ?_ | refine Fork.yes (by assumption) ?_ | refine Fork.no (by assumption) ?_ | refine Fork.decYes (by omega) ?_ | refine Fork.decNo (by omega) ?_ | refine Fork.dec (fun _ => ?_) (fun _ => ?_) | refine Fork.bne (fun _ => ?_) (fun _ => ?_) | refine Fork.beq (fun _ => ?_) (fun _ => ?_) | refine Fork.seq (fun _ => ?_) (fun _ => ?_) | refine Fork.sne (fun _ => ?_) (fun _ => ?_) | refine Fork.neg (fun _ => ?_) (fun _ => ?_) | refine Fork.mk (fun _ => ?_) (fun _ => ?_) | refine HAlt.mk ?_ ?_ | apply HJoin.mk3 | exact HEnd.mk rfl rfl rfl | refine HEnd.mk ?_ ?_ ?_ | refine Round.mk ?_ | refine NilQ.mk (fun b hb => ?_) | refine forceK_of ?_ | refine forceBx_of ?_ | refine unG_old ?_ | refine unG_gv ?_ | refine Lit.read rfl ?_ | refine FinVal.keep ?_ | refine FinAgg.keep ?_ | refine Final.mk rfl rfl | refine Final.mk ?_ rfl | refine Final.mk ?_ ?_ | refine FinalT.mk ?_ ?_ | refine FinalC.allA ?_ | refine ACall.scalA _ _ (eqCondS.big _ _ ?_) rfl ?_ | refine AQCall.mkA _ _ (fun hg => eqCondS.big _ _ ?_) rfl ?_ | refine AGCall.mkA _ _ (fun hg => eqCondS.big _ _ ?_) rfl ?_ | refine ACall.scalA _ _ (eqActionS.big _ _ ?_) rfl ?_ | refine AQCall.mkA _ _ (fun hg => eqActionS.big _ _ ?_) rfl ?_ | refine AGCall.mkA _ _ (fun hg => eqActionS.big _ _ ?_) rfl ?_)
    | refine AV.bool_congr ?_ | refine AV.int_congr ?_ | refine AV.str_congr ?_ | refine AV.list_congr ?_ | with_reducible rfl | refine fr1 ?_ | refine fr2 ?_ ?_
  all_goals first
    | omega
    | (simp only [tStrs_size, tInts_size] at *; omega)
    | (obtain ⟨x0, x1, x2, x3⟩ := f; obtain ⟨y0, y1, y2, y3⟩ := g; simp_all)
end Go.Proofs.YtimcfgokocihnaaGreat
namespace Go.Proofs.YtimcfgokocihnaaGreat
open Abs
def sIsAction.code : ACode := (.seq (.region false [s 1 (.box (t 0)), s 2 (.mv (.const (.bool false)))]) (.seq (.seq (.region false [s 3 (.fadr 0 (t 1)), s 4 (.load false 1 (t 3))]) (.block 0 (.seq (.seq (.region false [s 6 (.bin .eql (t 4) (.const (.int .i64 1))), s 5 (.mv (t 6))]) (.cond (t 5) .skip (.region false [s 7 (.bin .eql (t 4) (.const (.int .i64 2))), s 5 (.mv (t 7))]))) (.cond (t 5) (.seq (.region false [s 8 (.fadr 1 (t 1)), s 9 (.load true 2 (t 8)), s 10 (.call 50 [(t 9)]), s 2 (.mv (t 10))]) .ret) (.seq (.region false [s 12 (.bin .eql (t 4) (.const (.int .i64 3))), s 11 (.mv (t 12))]) (.cond (t 11) (.seq (.region false [s 13 (.fadr 1 (t 1)), s 14 (.fadr 0 (t 13)), s 15 (.load false 1 (t 14)), s 16 (.bin .eql (t 15) (.const (.string (.mk #[])))), s 17 (.mv (t 16)), g 17 true 18 (.fadr 1 (t 1)), g 17 true 19 (.fadr 1 (t 18)), g 17 true 20 (.load false 1 (t 19)), g 17 true 21 (.len false (t 20)), g 17 true 22 (.bin .eql (t 21) (.const (.int .i64 0))), s 23 (.and (t 17) (t 22)), s 2 (.mv (t 23))]) .ret) .skip)))))) (.seq (.region false [s 2 (.mv (.const (.bool false)))]) .ret)))
def sIsAction.keep : List Nat := [0, 1, 2, 4, 5]
def sIsAction.res : List RRes := [.tmp 2]
theorem sIsAction.of {mo : Bool} {args : List AV} {r : AV} {frs : Fr} (hn : Nat.ble args.length Tryz.f28.ntmps = true) (h : aCode (Kn mo Tryz.prog) sIsAction.keep 0 sIsAction.code (doneK sIsAction.res r frs) ⟨argEnv 0 args, [], []⟩) : Abs.Ret mo Tryz.prog 28 args r frs :=
  Abs.Ret.of_ir Tryz.func28 rfl (by kernel_rfl) (Nat.le_of_ble_eq_true hn) (by kernel_rfl) (by kernel_rfl) h
abbrev sIsAction.Ret (args : List AV) (r : AV) (frs : Fr) : Prop := Abs.Ret true Tryz.prog 28 args r frs
def pIsAction.code : ACode := (.seq (.region false [s 1 (.box (t 0)), s 2 (.mv (.const (.bool false)))]) (.seq (.seq (.region false [s 3 (.fadr 0 (t 1)), s 4 (.load false 1 (t 3))]) (.block 0 (.seq (.seq (.region false [s 6 (.bin .eql (t 4) (.const (.int .i64 1))), s 5 (.mv (t 6))]) (.cond (t 5) .skip (.region false [s 7 (.bin .eql (t 4) (.const (.int .i64 2))), s 5 (.mv (t 7))]))) (.cond (t 5) (.seq (.region false [s 8 (.fadr 1 (t 1)), s 9 (.load true 2 (t 8)), s 10 (.call 73 [(t 9)]), s 2 (.mv (t 10))]) .ret) (.seq (.region false [s 12 (.bin .eql (t 4) (.const (.int .i64 3))), s 11 (.mv (t 12))]) (.cond (t 11) (.seq (.region false [s 13 (.fadr 1 (t 1)), s 14 (.load true 2 (t 13)), s 15 (.build [(.string (.mk (.mk []))), (.slice none 0 0)] [] []), s 16 (.call 75 [(t 14), (t 15)]), s 2 (.mv (t 16))]) .ret) .skip)))))) (.seq (.region false [s 2 (.mv (.const (.bool false)))]) .ret)))
def pIsAction.keep : List Nat := [0, 1, 2, 4, 5]
def pIsAction.res : List RRes := [.tmp 2]
theorem pIsAction.of {mo : Bool} {args : List AV} {r : AV} {frs : Fr} (hn : Nat.ble args.length Tryz.f58.ntmps = true) (h : aCode (Kn mo Tryz.prog) pIsAction.keep 0 pIsAction.code (doneK pIsAction.res r frs) ⟨argEnv 0 args, [], []⟩) : Abs.Ret mo Tryz.prog 58 args r frs :=
  Abs.Ret.of_ir Tryz.func58 rfl (by kernel_rfl) (Nat.le_of_ble_eq_true hn) (by kernel_rfl) (by kernel_rfl) h
abbrev pIsAction.Ret (args : List AV) (r : AV) (frs : Fr) : Prop := Abs.Ret true Tryz.prog 58 args r frs
def sBoundVars.code : ACode := (.seq (.region false [s 2 (.box (t 0)), s 4 (.mv (.const (.slice none 0 0)))]) (.seq (.region false [s 9 (.bslice 9 1 true []), s 5 (.mv (t 9))]) (.seq (.seq (.region false [s 6 (.mv (.const (.int .i64 0)))]) (.block 0 (.loop (.seq (.seq (.region false [s 10 (.mv (t 6)), s 11 (.fadr 2 (t 2)), s 12 (.load false 1 (t 11)), s 13 (.len false (t 12)), s 14 (.bin .lss (t 10) (t 13)), s 15 (.mv (t 14)), g 15 true 16 (.mv (t 6)), g 15 true 17 (.mv (t 1)), g 15 true 18 (.bin .lss (t 16) (t 17)), s 19 (.and (t 15) (t 18))]) (.cond (t 19) .skip (.exit 0))) (.seq (.block 1 (.seq (.region false [s 22 (.fadr 2 (t 2)), s 23 (.load false 1 (t 22)), s 24 (.mv (t 6)), s 25 (.iadr 5 (t 23) (t 24)), s 26 (.fadr 0 (t 25)), s 27 (.load false 1 (t 26)), s 28 (.bin .eql (t 27) (.const (.int .i64 1)))]) (.cond (t 28) (.seq (.region false [s 29 (.fadr 2 (t 2)), s 30 (.load false 1 (t 29)), s 31 (.mv (t 6)), s 32 (.iadr 5 (t 30) (t 31)), s 33 (.fadr 1 (t 32)), s 34 (.load true 2 (t 33)), s 35 (.call 29 [(t 34)]), s 7 (.mv (t 35))]) (.seq (.region false [s 8 (.mv (.const (.int .i64 0)))]) (.block 2 (.loop (.seq (.seq (.region false [s 36 (.mv (t 8)), s 37 (.mv (t 7)), s 38 (.len false (t 37)), s 39 (.bin .lss (t 36) (t 38))]) (.cond (t 39) .skip (.exit 2))) (.seq (.block 3 (.region false [s 42 (.mv (t 5)), s 43 (.mv (t 7)), s 44 (.mv (t 8)), s 45 (.iadr 1 (t 43) (t 44)), s 46 (.load false 1 (t 45)), s 47 (.call 49 [(t 42), (t 46)]), s 5 (.mv (t 47))])) (.region false [s 40 (.mv (t 8)), s 41 (.bin .add (t 40) (.const (.int .i64 1))), s 8 (.mv (t 41))]))))))) .skip))) (.region false [s 20 (.mv (t 6)), s 21 (.bin .add (t 20) (.const (.int .i64 1))), s 6 (.mv (t 21))])))))) (.seq (.region false [s 48 (.mv (t 5)), s 4 (.mv (t 48))]) .ret))))
def sBoundVars.keep : List Nat := [0, 1, 2, 4, 5, 6, 7, 8]
def sBoundVars.res : List RRes := [.tmp 4]
abbrev sBoundVars.Own (args : List AV) (x : Tr) : Prop := Abs.Own true Tryz.prog 22 args x
def pBoundVars.code : ACode := (.seq (.region false [s 2 (.box (t 0)), s 4 (.mv (.const (.slice none 0 0)))]) (.seq (.region false [s 8 (.bslice 9 1 true []), s 5 (.mv (t 8))]) (.seq (.seq (.region false [s 9 (.fadr 2 (t 2)), s 10 (.load false 1 (t 9)), s 11 (.mv (t 1)), s 12 (.mm true (t 11) (.const (.int .i64 0))), s 13 (.fadr 2 (t 2)), s 14 (.load false 1 (t 13)), s 15 (.len false (t 14)), s 16 (.mm false (t 12) (t 15)), s 17 (.slice false 5 (t 10) none (some (t 16))), s 18 (.len false (t 17)), s 19 (.mv (.const (.int .i64 0)))]) (.block 0 (.loop (.seq (.region false [s 20 (.bin .lss (t 19) (t 18))]) (.seq (.cond (t 20) .skip (.exit 0)) (.seq (.block 1 (.seq (.region false [s 21 (.iadr 5 (t 17) (t 19)), s 22 (.load true 5 (t 21)), s 7 (.alloc [(.int .i64 (.ofNat 0)), (.string (.mk (.mk []))), (.slice none 0 0), (.string (.mk (.mk []))), (.string (.mk (.mk [])))]), ⟨none, none, (.store 5 (t 7) (t 22))⟩]) (.seq (.region false [s 23 (.fadr 0 (t 7)), s 24 (.load false 1 (t 23)), s 25 (.bin .eql (t 24) (.const (.int .i64 1)))]) (.cond (t 25) (.region false [s 26 (.mv (t 5)), s 27 (.fadr 1 (t 7)), s 28 (.load true 2 (t 27)), s 29 (.call 63 [(t 28)]), s 30 (.append 9 1 16 (t 26) (t 29)), s 5 (.mv (t 30))]) .skip)))) (.region false [s 31 (.bin .add (t 19) (.const (.int .i64 1))), s 19 (.mv (t 31))]))))))) (.seq (.region false [s 32 (.mv (t 5)), s 33 (.call 65 [(t 32)]), s 4 (.mv (t 33))]) .ret))))
def pBoundVars.keep : List Nat := [0, 1, 2, 4, 5, 7, 17, 18, 19, 20]
def pBoundVars.res : List RRes := [.tmp 4]
theorem pBoundVars.of {mo : Bool} {args : List AV} {r : AV} {frs : Fr} (hn : Nat.ble args.length Tryz.f60.ntmps = true) (h : aCode (Kn mo Tryz.prog) pBoundVars.keep 0 pBoundVars.code (doneK pBoundVars.res r frs) ⟨argEnv 0 args, [], []⟩) : Abs.Ret mo Tryz.prog 60 args r frs :=
  Abs.Ret.of_ir Tryz.func60 rfl (by kernel_rfl) (Nat.le_of_ble_eq_true hn) (by kernel_rfl) (by kernel_rfl) h
abbrev pBoundVars.Own (args : List AV) (x : Tr) : Prop := Abs.Own true Tryz.prog 60 args x
abbrev pBoundVars.Ret (args : List AV) (r : AV) (frs : Fr) : Prop := Abs.Ret true Tryz.prog 60 args r frs
def sRuleVars.code : ACode := (.seq (.region false [s 1 (.box (t 0)), s 2 (.mv (.const (.slice none 0 0)))]) (.seq (.region false [s 10 (.bslice 9 1 true []), s 3 (.mv (t 10))]) (.seq (.seq (.region false [s 4 (.mv (.const (.int .i64 0)))]) (.block 0 (.loop (.seq (.seq (.region false [s 11 (.mv (t 4)), s 12 (.fadr 2 (t 1)), s 13 (.load false 1 (t 12)), s 14 (.len false (t 13)), s 15 (.bin .lss (t 11) (t 14))]) (.cond (t 15) .skip (.exit 0))) (.seq (.block 1 (.seq (.region false [s 18 (.fadr 2 (t 1)), s 19 (.load false 1 (t 18)), s 20 (.mv (t 4)), s 21 (.iadr 5 (t 19) (t 20)), s 22 (.load true 5 (t 21)), s 23 (.call 24 [(t 22)]), s 5 (.mv (t 23))]) (.seq (.region false [s 6 (.mv (.const (.int .i64 0)))]) (.block 2 (.loop (.seq (.seq (.region false [s 24 (.mv (t 6)), s 25 (.mv (t 5)), s 26 (.len false (t 25)), s 27 (.bin .lss (t 24) (t 26))]) (.cond (t 27) .skip (.exit 2))) (.seq (.block 3 (.region false [s 30 (.mv (t 3)), s 31 (.mv (t 5)), s 32 (.mv (t 6)), s 33 (.iadr 1 (t 31) (t 32)), s 34 (.load false 1 (t 33)), s 35 (.call 49 [(t 30), (t 34)]), s 3 (.mv (t 35))])) (.region false [s 28 (.mv (t 6)), s 29 (.bin .add (t 28) (.const (.int .i64 1))), s 6 (.mv (t 29))])))))))) (.region false [s 16 (.mv (t 4)), s 17 (.bin .add (t 16) (.const (.int .i64 1))), s 4 (.mv (t 17))])))))) (.seq (.seq (.region false [s 7 (.mv (.const (.int .i64 0)))]) (.block 4 (.loop (.seq (.seq (.region false [s 36 (.mv (t 7)), s 37 (.fadr 3 (t 1)), s 38 (.load false 1 (t 37)), s 39 (.len false (t 38)), s 40 (.bin .lss (t 36) (t 39))]) (.cond (t 40) .skip (.exit 4))) (.seq (.block 5 (.seq (.region false [s 43 (.fadr 3 (t 1)), s 44 (.load false 1 (t 43)), s 45 (.mv (t 7)), s 46 (.iadr 3 (t 44) (t 45)), s 47 (.fadr 1 (t 46)), s 48 (.load true 2 (t 47)), s 49 (.call 29 [(t 48)]), s 8 (.mv (t 49))]) (.seq (.region false [s 9 (.mv (.const (.int .i64 0)))]) (.block 6 (.loop (.seq (.seq (.region false [s 50 (.mv (t 9)), s 51 (.mv (t 8)), s 52 (.len false (t 51)), s 53 (.bin .lss (t 50) (t 52))]) (.cond (t 53) .skip (.exit 6))) (.seq (.block 7 (.region false [s 56 (.mv (t 3)), s 57 (.mv (t 8)), s 58 (.mv (t 9)), s 59 (.iadr 1 (t 57) (t 58)), s 60 (.load false 1 (t 59)), s 61 (.call 49 [(t 56), (t 60)]), s 3 (.mv (t 61))])) (.region false [s 54 (.mv (t 9)), s 55 (.bin .add (t 54) (.const (.int .i64 1))), s 9 (.mv (t 55))])))))))) (.region false [s 41 (.mv (t 7)), s 42 (.bin .add (t 41) (.const (.int .i64 1))), s 7 (.mv (t 42))])))))) (.seq (.region false [s 62 (.mv (t 3)), s 2 (.mv (t 62))]) .ret)))))
def sRuleVars.keep : List Nat := [0, 1, 2, 3, 4, 5, 6, 7, 8, 9]
def sRuleVars.res : List RRes := [.tmp 2]
abbrev sRuleVars.Own (args : List AV) (x : Tr) : Prop := Abs.Own true Tryz.prog 30 args x
def pRuleVars.code : ACode := (.seq (.region false [s 1 (.box (t 0)), s 2 (.mv (.const (.slice none 0 0)))]) (.seq (.region false [s 6 (.fadr 2 (t 1)), s 7 (.load false 1 (t 6)), s 8 (.call 37 [(t 7)]), s 3 (.mv (t 8))]) (.seq (.seq (.region false [s 9 (.fadr 3 (t 1)), s 10 (.load false 1 (t 9)), s 11 (.len false (t 10)), s 12 (.mv (.const (.int .i64 0)))]) (.block 0 (.loop (.seq (.region false [s 13 (.bin .lss (t 12) (t 11))]) (.seq (.cond (t 13) .skip (.exit 0)) (.seq (.block 1 (.seq (.region false [s 14 (.iadr 3 (t 10) (t 12)), s 15 (.load true 3 (t 14)), s 5 (.alloc [(.int .i64 (.ofNat 0)), (.string (.mk (.mk []))), (.slice none 0 0)]), ⟨none, none, (.store 3 (t 5) (t 15))⟩]) (.region false [s 16 (.mv (t 3)), s 17 (.fadr 1 (t 5)), s 18 (.load true 2 (t 17)), s 19 (.call 63 [(t 18)]), s 20 (.append 9 1 16 (t 16) (t 19)), s 3 (.mv (t 20))]))) (.region false [s 21 (.bin .add (t 12) (.const (.int .i64 1))), s 12 (.mv (t 21))]))))))) (.seq (.region false [s 22 (.mv (t 3)), s 23 (.call 65 [(t 22)]), s 2 (.mv (t 23))]) .ret))))
def pRuleVars.keep : List Nat := [0, 1, 2, 3, 5, 10, 11, 12, 13]
def pRuleVars.res : List RRes := [.tmp 2]
theorem pRuleVars.of {mo : Bool} {args : List AV} {r : AV} {frs : Fr} (hn : Nat.ble args.length Tryz.f76.ntmps = true) (h : aCode (Kn mo Tryz.prog) pRuleVars.keep 0 pRuleVars.code (doneK pRuleVars.res r frs) ⟨argEnv 0 args, [], []⟩) : Abs.Ret mo Tryz.prog 76 args r frs :=
  Abs.Ret.of_ir Tryz.func76 rfl (by kernel_rfl) (Nat.le_of_ble_eq_true hn) (by kernel_rfl) (by kernel_rfl) h
abbrev pRuleVars.Own (args : List AV) (x : Tr) : Prop := Abs.Own true Tryz.prog 76 args x
abbrev pRuleVars.Ret (args : List AV) (r : AV) (frs : Fr) : Prop := Abs.Ret true Tryz.prog 76 args r frs
def pvarsOfConds.code : ACode := (.seq (.region false [s 2 (.mv (.const (.slice none 0 0)))]) (.seq (.region false [s 6 (.bslice 9 1 true []), s 3 (.mv (t 6))]) (.seq (.seq (.region false [s 7 (.mv (t 0)), s 8 (.len false (t 7)), s 9 (.mv (.const (.int .i64 0)))]) (.block 0 (.loop (.seq (.region false [s 10 (.bin .lss (t 9) (t 8))]) (.seq (.cond (t 10) .skip (.exit 0)) (.seq (.block 1 (.seq (.region false [s 11 (.iadr 5 (t 7) (t 9)), s 12 (.load true 5 (t 11)), s 5 (.alloc [(.int .i64 (.ofNat 0)), (.string (.mk (.mk []))), (.slice none 0 0), (.string (.mk (.mk []))), (.string (.mk (.mk [])))]), ⟨none, none, (.store 5 (t 5) (t 12))⟩]) (.region false [s 13 (.mv (t 3)), s 14 (.load true 5 (t 5)), s 15 (.call 64 [(t 14)]), s 16 (.append 9 1 16 (t 13) (t 15)), s 3 (.mv (t 16))]))) (.region false [s 17 (.bin .add (t 9) (.const (.int .i64 1))), s 9 (.mv (t 17))]))))))) (.seq (.region false [s 18 (.mv (t 3)), s 19 (.call 65 [(t 18)]), s 2 (.mv (t 19))]) .ret))))
def pvarsOfConds.keep : List Nat := [0, 2, 3, 5, 7, 8, 9, 10]
def pvarsOfConds.res : List RRes := [.tmp 2]
theorem pvarsOfConds.of {mo : Bool} {args : List AV} {r : AV} {frs : Fr} (hn : Nat.ble args.length Tryz.f37.ntmps = true) (h : aCode (Kn mo Tryz.prog) pvarsOfConds.keep 0 pvarsOfConds.code (doneK pvarsOfConds.res r frs) ⟨argEnv 0 args, [], []⟩) : Abs.Ret mo Tryz.prog 37 args r frs :=
  Abs.Ret.of_ir Tryz.func37 rfl (by kernel_rfl) (Nat.le_of_ble_eq_true hn) (by kernel_rfl) (by kernel_rfl) h
abbrev pvarsOfConds.Own (args : List AV) (x : Tr) : Prop := Abs.Own true Tryz.prog 37 args x
abbrev pvarsOfConds.Ret (args : List AV) (r : AV) (frs : Fr) : Prop := Abs.Ret true Tryz.prog 37 args r frs
def sIsRule.code : ACode := (.seq (.region false [s 1 (.box (t 0)), s 2 (.mv (.const (.bool false)))]) (.seq (.seq (.region false [s 13 (.fadr 0 (t 1)), s 14 (.load false 1 (t 13)), s 15 (.call 20 [(t 14)]), s 16 (.not (t 15)), s 17 (.mv (t 16)), g 17 false 18 (.fadr 1 (t 1)), g 17 false 19 (.load false 1 (t 18)), g 17 false 20 (.call 21 [(t 19), (.const (.int .i64 0)), (.const (.int .i64 9))]), g 17 false 21 (.not (t 20)), s 22 (.or (t 17) (t 21)), s 23 (.mv (t 22)), g 23 false 24 (.fadr 2 (t 1)), g 23 false 25 (.load false 1 (t 24)), g 23 false 26 (.len false (t 25)), g 23 false 27 (.call 21 [(t 26), (.const (.int .i64 1)), (.const (.int .i64 4))]), g 23 false 28 (.not (t 27)), s 29 (.or (t 23) (t 28)), s 30 (.mv (t 29)), g 30 false 31 (.fadr 3 (t 1)), g 30 false 32 (.load false 1 (t 31)), g 30 false 33 (.len false (t 32)), g 30 false 34 (.call 21 [(t 33), (.const (.int .i64 1)), (.const (.int .i64 2))]), g 30 false 35 (.not (t 34)), s 36 (.or (t 30) (t 35))]) (.cond (t 36) (.seq (.region false [s 2 (.mv (.const (.bool false)))]) .ret) .skip)) (.seq (.region false [s 37 (.load true 4 (t 1)), s 38 (.fadr 2 (t 1)), s 39 (.load false 1 (t 38)), s 40 (.len false (t 39)), s 41 (.call 22 [(t 37), (t 40)]), s 3 (.mv (t 41))]) (.seq (.seq (.region false [s 4 (.mv (.const (.int .i64 0)))]) (.block 0 (.loop (.seq (.seq (.region false [s 42 (.mv (t 4)), s 43 (.fadr 2 (t 1)), s 44 (.load false 1 (t 43)), s 45 (.len false (t 44)), s 46 (.bin .lss (t 42) (t 45))]) (.cond (t 46) .skip (.exit 0))) (.seq (.block 1 (.seq (.region false [s 49 (.fadr 2 (t 1)), s 50 (.load false 1 (t 49)), s 51 (.mv (t 4)), s 52 (.iadr 5 (t 50) (t 51)), s 53 (.load true 5 (t 52)), s 5 (.alloc [(.int .i64 (.ofNat 0)), (.string (.mk (.mk []))), (.slice none 0 0), (.string (.mk (.mk []))), (.string (.mk (.mk [])))]), ⟨none, none, (.store 5 (t 5) (t 53))⟩]) (.seq (.seq (.region false [s 54 (.load true 5 (t 5)), s 55 (.call 23 [(t 54)]), s 56 (.not (t 55)), s 57 (.mv (t 56)), g 57 false 58 (.mv (t 4)), g 57 false 59 (.bin .eql (t 58) (.const (.int .i64 0))), g 57 false 60 (.mv (t 59)), g 60 true 61 (.fadr 0 (t 5)), g 60 true 62 (.load false 1 (t 61)), g 60 true 63 (.bin .neq (t 62) (.const (.int .i64 1))), g 57 false 64 (.and (t 60) (t 63)), s 65 (.or (t 57) (t 64))]) (.cond (t 65) (.seq (.region false [s 2 (.mv (.const (.bool false)))]) .ret) .skip)) (.seq (.region false [s 66 (.load true 4 (t 1)), s 67 (.mv (t 4)), s 68 (.call 22 [(t 66), (t 67)]), s 6 (.mv (t 68))]) (.seq (.region false [s 69 (.load true 5 (t 5)), s 70 (.call 24 [(t 69)]), s 7 (.mv (t 70))]) (.seq (.region false [s 8 (.mv (.const (.int .i64 0)))]) (.block 2 (.loop (.seq (.seq (.region false [s 71 (.mv (t 8)), s 72 (.mv (t 7)), s 73 (.len false (t 72)), s 74 (.bin .lss (t 71) (t 73))]) (.cond (t 74) .skip (.exit 2))) (.seq (.block 3 (.seq (.region false [s 77 (.mv (t 6)), s 78 (.mv (t 7)), s 79 (.mv (t 8)), s 80 (.iadr 1 (t 78) (t 79)), s 81 (.load false 1 (t 80)), s 82 (.call 25 [(t 77), (t 81)]), s 9 (.mv (t 82))]) (.seq (.region true [s 83 (.load true 5 (t 5)), s 84 (.call 26 [(t 83)]), s 85 (.mv (t 84)), g 85 true 86 (.mv (t 9)), g 85 true 87 (.not (t 86)), s 88 (.and (t 85) (t 87)), s 89 (.mv (t 88)), g 89 false 90 (.fadr 0 (t 5)), g 89 false 91 (.load false 1 (t 90)), g 89 false 92 (.bin .eql (t 91) (.const (.int .i64 2))), g 89 false 93 (.mv (t 92)), g 93 true 94 (.mv (t 9)), g 93 true 95 (.not (t 94)), g 89 false 96 (.and (t 93) (t 95)), g 89 false 97 (.mv (t 96)), g 97 true 98 (.load true 4 (t 1)), g 97 true 99 (.mv (t 4)), g 97 true 100 (.mv (t 7)), g 97 true 101 (.mv (t 8)), g 97 true 102 (.iadr 1 (t 100) (t 101)), g 97 true 103 (.load false 1 (t 102)), g 97 true 104 (.call 27 [(t 98), (t 99), (t 103)]), g 89 false 105 (.and (t 97) (t 104)), s 106 (.or (t 89) (t 105))]) (.cond (t 106) (.seq (.region false [s 2 (.mv (.const (.bool false)))]) .ret) .skip)))) (.region false [s 75 (.mv (t 8)), s 76 (.bin .add (t 75) (.const (.int .i64 1))), s 8 (.mv (t 76))]))))))))))) (.region false [s 47 (.mv (t 4)), s 48 (.bin .add (t 47) (.const (.int .i64 1))), s 4 (.mv (t 48))])))))) (.seq (.seq (.region false [s 10 (.mv (.const (.int .i64 0)))]) (.block 4 (.loop (.seq (.seq (.region false [s 107 (.mv (t 10)), s 108 (.fadr 3 (t 1)), s 109 (.load false 1 (t 108)), s 110 (.len false (t 109)), s 111 (.bin .lss (t 107) (t 110))]) (.cond (t 111) .skip (.exit 4))) (.seq (.block 5 (.seq (.seq (.region false [s 114 (.fadr 3 (t 1)), s 115 (.load false 1 (t 114)), s 116 (.mv (t 10)), s 117 (.iadr 3 (t 115) (t 116)), s 118 (.load true 3 (t 117)), s 119 (.call 28 [(t 118)]), s 120 (.not (t 119))]) (.cond (t 120) (.seq (.region false [s 2 (.mv (.const (.bool false)))]) .ret) .skip)) (.seq (.region false [s 121 (.fadr 3 (t 1)), s 122 (.load false 1 (t 121)), s 123 (.mv (t 10)), s 124 (.iadr 3 (t 122) (t 123)), s 125 (.fadr 1 (t 124)), s 126 (.load true 2 (t 125)), s 127 (.call 29 [(t 126)]), s 11 (.mv (t 127))]) (.seq (.region false [s 12 (.mv (.const (.int .i64 0)))]) (.block 6 (.loop (.seq (.seq (.region false [s 128 (.mv (t 12)), s 129 (.mv (t 11)), s 130 (.len false (t 129)), s 131 (.bin .lss (t 128) (t 130))]) (.cond (t 131) .skip (.exit 6))) (.seq (.block 7 (.seq (.region false [s 134 (.mv (t 3)), s 135 (.mv (t 11)), s 136 (.mv (t 12)), s 137 (.iadr 1 (t 135) (t 136)), s 138 (.load false 1 (t 137)), s 139 (.call 25 [(t 134), (t 138)]), s 140 (.not (t 139))]) (.cond (t 140) (.seq (.region false [s 2 (.mv (.const (.bool false)))]) .ret) .skip))) (.region false [s 132 (.mv (t 12)), s 133 (.bin .add (t 132) (.const (.int .i64 1))), s 12 (.mv (t 133))]))))))))) (.region false [s 112 (.mv (t 10)), s 113 (.bin .add (t 112) (.const (.int .i64 1))), s 10 (.mv (t 113))])))))) (.seq (.region false [s 141 (.load true 4 (t 1)), s 142 (.call 30 [(t 141)]), s 143 (.len false (t 142)), s 144 (.bin .leq (t 143) (.const (.int .i64 6))), s 2 (.mv (t 144))]) .ret))))))
def sIsRule.keep : List Nat := [0, 1, 2, 3, 4, 5, 6, 7, 8, 9, 10, 11, 12]
def sIsRule.res : List RRes := [.tmp 2]
theorem sIsRule.of {mo : Bool} {args : List AV} {r : AV} {frs : Fr} (hn : Nat.ble args.length Tryz.f7.ntmps = true) (h : aCode (Kn mo Tryz.prog) sIsRule.keep 0 sIsRule.code (doneK sIsRule.res r frs) ⟨argEnv 0 args, [], []⟩) : Abs.Ret mo Tryz.prog 7 args r frs :=
  Abs.Ret.of_ir Tryz.func7 rfl (by kernel_rfl) (Nat.le_of_ble_eq_true hn) (by kernel_rfl) (by kernel_rfl) h
abbrev sIsRule.Ret (args : List AV) (r : AV) (frs : Fr) : Prop := Abs.Ret true Tryz.prog 7 args r frs
def pIsRule.code : ACode := (.seq (.region false [s 1 (.box (t 0)), s 2 (.mv (.const (.bool false)))]) (.seq (.region false [s 3 (.fadr 0 (t 1)), s 4 (.load false 1 (t 3)), s 5 (.call 33 [(t 4)]), s 6 (.mv (t 5)), g 6 true 7 (.fadr 1 (t 1)), g 6 true 8 (.load false 1 (t 7)), g 6 true 9 (.bin .leq (.const (.int .i64 0)) (t 8)), s 10 (.and (t 6) (t 9)), s 11 (.mv (t 10)), g 11 true 12 (.fadr 1 (t 1)), g 11 true 13 (.load false 1 (t 12)), g 11 true 14 (.bin .leq (t 13) (.const (.int .i64 9))), s 15 (.and (t 11) (t 14)), s 16 (.mv (t 15)), g 16 true 17 (.fadr 2 (t 1)), g 16 true 18 (.load false 1 (t 17)), g 16 true 19 (.call 34 [(t 18)]), s 20 (.and (t 16) (t 19)), s 21 (.mv (t 20)), g 21 true 22 (.fadr 3 (t 1)), g 21 true 23 (.load false 1 (t 22)), g 21 true 24 (.call 35 [(t 23)]), s 25 (.and (t 21) (t 24)), s 26 (.mv (t 25)), g 26 true 27 (.load true 4 (t 1)), g 26 true 28 (.call 36 [(t 27)]), s 29 (.and (t 26) (t 28)), s 30 (.mv (t 29)), g 30 true 31 (.fadr 2 (t 1)), g 30 true 32 (.load false 1 (t 31)), g 30 true 33 (.call 37 [(t 32)]), g 30 true 34 (.len false (t 33)), g 30 true 35 (.bin .leq (t 34) (.const (.int .i64 6))), s 36 (.and (t 30) (t 35)), s 2 (.mv (t 36))]) .ret))
def pIsRule.keep : List Nat := [0, 1, 2]
def pIsRule.res : List RRes := [.tmp 2]
theorem pIsRule.ofS {mo : Bool} {args : List AV} {r : AV} (hr : isScalR r = true) (hn : Nat.ble args.length Tryz.f9.ntmps = true) (h : aCode (Kn mo Tryz.prog) pIsRule.keep 0 pIsRule.code (doneS pIsRule.res r) ⟨argEnv 0 args, [], []⟩) : Abs.Ret mo Tryz.prog 9 args r [] :=
  Abs.Ret.of_irS hr Tryz.func9 rfl (by kernel_rfl) (Nat.le_of_ble_eq_true hn) (by kernel_rfl) (by kernel_rfl) h
abbrev pIsRule.Ret (args : List AV) (r : AV) (frs : Fr) : Prop := Abs.Ret true Tryz.prog 9 args r frs
def sElse.code : ACode := (.seq (.region false [s 3 (.box (t 0)), s 6 (.mv (.const (.bool false)))]) (.seq (.seq (.region false [s 7 (.mv (.const (.int .i64 0)))]) (.block 0 (.loop (.seq (.seq (.region false [s 9 (.mv (t 7)), s 10 (.fadr 2 (t 3)), s 11 (.load false 1 (t 10)), s 12 (.len false (t 11)), s 13 (.bin .lss (t 9) (t 12))]) (.cond (t 13) .skip (.exit 0))) (.seq (.block 1 (.seq (.region false [s 16 (.mv (t 7)), s 17 (.mv (t 1)), s 18 (.bin .neq (t 16) (t 17)), s 19 (.mv (t 18)), g 19 true 20 (.fadr 2 (t 3)), g 19 true 21 (.load false 1 (t 20)), g 19 true 22 (.mv (t 7)), g 19 true 23 (.iadr 5 (t 21) (t 22)), g 19 true 24 (.load true 5 (t 23)), g 19 true 25 (.call 24 [(t 24)]), g 19 true 26 (.mv (t 2)), g 19 true 27 (.call 25 [(t 25), (t 26)]), s 28 (.and (t 19) (t 27))]) (.cond (t 28) (.seq (.region false [s 6 (.mv (.const (.bool true)))]) .ret) .skip))) (.region false [s 14 (.mv (t 7)), s 15 (.bin .add (t 14) (.const (.int .i64 1))), s 7 (.mv (t 15))])))))) (.seq (.seq (.region false [s 8 (.mv (.const (.int .i64 0)))]) (.block 2 (.loop (.seq (.seq (.region false [s 29 (.mv (t 8)), s 30 (.fadr 3 (t 3)), s 31 (.load false 1 (t 30)), s 32 (.len false (t 31)), s 33 (.bin .lss (t 29) (t 32))]) (.cond (t 33) .skip (.exit 2))) (.seq (.block 3 (.seq (.region false [s 36 (.fadr 3 (t 3)), s 37 (.load false 1 (t 36)), s 38 (.mv (t 8)), s 39 (.iadr 3 (t 37) (t 38)), s 40 (.fadr 1 (t 39)), s 41 (.load true 2 (t 40)), s 42 (.call 29 [(t 41)]), s 43 (.mv (t 2)), s 44 (.call 25 [(t 42), (t 43)])]) (.cond (t 44) (.seq (.region false [s 6 (.mv (.const (.bool true)))]) .ret) .skip))) (.region false [s 34 (.mv (t 8)), s 35 (.bin .add (t 34) (.const (.int .i64 1))), s 8 (.mv (t 35))])))))) (.seq (.region false [s 6 (.mv (.const (.bool false)))]) .ret))))
def sElse.keep : List Nat := [0, 1, 2, 3, 6, 7, 8]
def sElse.res : List RRes := [.tmp 6]
theorem sElse.of {mo : Bool} {args : List AV} {r : AV} {frs : Fr} (hn : Nat.ble args.length Tryz.f27.ntmps = true) (h : aCode (Kn mo Tryz.prog) sElse.keep 0 sElse.code (doneK sElse.res r frs) ⟨argEnv 0 args, [], []⟩) : Abs.Ret mo Tryz.prog 27 args r frs :=
  Abs.Ret.of_ir Tryz.func27 rfl (by kernel_rfl) (Nat.le_of_ble_eq_true hn) (by kernel_rfl) (by kernel_rfl) h
abbrev sElse.Ret (args : List AV) (r : AV) (frs : Fr) : Prop := Abs.Ret true Tryz.prog 27 args r frs
def pareConds.code : ACode := (.seq (.region false [s 2 (.mv (.const (.bool false)))]) (.seq (.region false [s 3 (.mv (t 0)), s 4 (.len false (t 3)), s 5 (.bin .leq (.const (.int .i64 1)) (t 4)), s 6 (.mv (t 5)), g 6 true 7 (.mv (t 0)), g 6 true 8 (.len false (t 7)), g 6 true 9 (.bin .leq (t 8) (.const (.int .i64 4))), s 10 (.and (t 6) (t 9)), s 11 (.mv (t 10)), g 11 true 12 (.mv (t 0)), g 11 true 13 (.iadr 5 (t 12) (.const (.int .i64 0))), g 11 true 14 (.fadr 0 (t 13)), g 11 true 15 (.load false 1 (t 14)), g 11 true 16 (.bin .eql (t 15) (.const (.int .i64 1))), s 17 (.and (t 11) (t 16)), s 18 (.mv (t 17)), g 18 true 19 (.mv (t 0)), g 18 true 20 (.call 42 [(t 19), (.func 57)]), s 21 (.and (t 18) (t 20)), s 2 (.mv (t 21))]) .ret))
def pareConds.keep : List Nat := [0, 2]
def pareConds.res : List RRes := [.tmp 2]
theorem pareConds.of {mo : Bool} {args : List AV} {r : AV} {frs : Fr} (hn : Nat.ble args.length Tryz.f34.ntmps = true) (h : aCode (Kn mo Tryz.prog) pareConds.keep 0 pareConds.code (doneK pareConds.res r frs) ⟨argEnv 0 args, [], []⟩) : Abs.Ret mo Tryz.prog 34 args r frs :=
  Abs.Ret.of_ir Tryz.func34 rfl (by kernel_rfl) (Nat.le_of_ble_eq_true hn) (by kernel_rfl) (by kernel_rfl) h
abbrev pareConds.Ret (args : List AV) (r : AV) (frs : Fr) : Prop := Abs.Ret true Tryz.prog 34 args r frs
def pareActions.code : ACode := (.seq (.region false [s 2 (.mv (.const (.bool false)))]) (.seq (.region false [s 3 (.mv (t 0)), s 4 (.len false (t 3)), s 5 (.bin .leq (.const (.int .i64 1)) (t 4)), s 6 (.mv (t 5)), g 6 true 7 (.mv (t 0)), g 6 true 8 (.len false (t 7)), g 6 true 9 (.bin .leq (t 8) (.const (.int .i64 2))), s 10 (.and (t 6) (t 9)), s 11 (.mv (t 10)), g 11 true 12 (.mv (t 0)), g 11 true 13 (.call 44 [(t 12), (.func 58)]), s 14 (.and (t 11) (t 13)), s 2 (.mv (t 14))]) .ret))
def pareActions.keep : List Nat := [0, 2]
def pareActions.res : List RRes := [.tmp 2]
theorem pareActions.of {mo : Bool} {args : List AV} {r : AV} {frs : Fr} (hn : Nat.ble args.length Tryz.f35.ntmps = true) (h : aCode (Kn mo Tryz.prog) pareActions.keep 0 pareActions.code (doneK pareActions.res r frs) ⟨argEnv 0 args, [], []⟩) : Abs.Ret mo Tryz.prog 35 args r frs :=
  Abs.Ret.of_ir Tryz.func35 rfl (by kernel_rfl) (Nat.le_of_ble_eq_true hn) (by kernel_rfl) (by kernel_rfl) h
abbrev pareActions.Ret (args : List AV) (r : AV) (frs : Fr) : Prop := Abs.Ret true Tryz.prog 35 args r frs
def pusesOnlyBound.code : ACode := (.seq (.region false [s 1 (.box (t 0)), s 2 (.mv (.const (.bool false)))]) (.seq (.seq (.region false [s 5 (.fadr 2 (t 1)), s 6 (.load false 1 (t 5)), s 7 (.len false (t 6)), s 8 (.mv (.const (.int .i64 0)))]) (.block 0 (.loop (.seq (.region false [s 9 (.bin .lss (t 8) (t 7))]) (.seq (.cond (t 9) .skip (.exit 0)) (.seq (.block 1 (.seq (.region false [s 10 (.mv (t 8)), s 3 (.mv (t 10))]) (.seq (.region false [s 11 (.load true 4 (t 1)), s 12 (.mv (t 3)), s 13 (.call 59 [(t 11), (t 12)]), s 14 (.not (t 13))]) (.cond (t 14) (.seq (.region false [s 2 (.mv (.const (.bool false)))]) .ret) .skip)))) (.region false [s 15 (.bin .add (t 8) (.const (.int .i64 1))), s 8 (.mv (t 15))]))))))) (.seq (.region false [s 16 (.load true 4 (t 1)), s 17 (.fadr 2 (t 1)), s 18 (.load false 1 (t 17)), s 19 (.len false (t 18)), s 20 (.call 60 [(t 16), (t 19)]), s 4 (.alloc [(.slice none 0 0)]), ⟨none, none, (.store 1 (t 4) (t 20))⟩]) (.seq (.region false [s 21 (.fadr 3 (t 1)), s 22 (.load false 1 (t 21)), s 23 (.clo 61 [] [(t 4)]), s 24 (.call 44 [(t 22), (t 23)]), s 2 (.mv (t 24))]) .ret))))
def pusesOnlyBound.keep : List Nat := [0, 1, 2, 3, 4, 7, 8, 9]
def pusesOnlyBound.res : List RRes := [.tmp 2]
theorem pusesOnlyBound.ofS {mo : Bool} {args : List AV} {r : AV} (hr : isScalR r = true) (hn : Nat.ble args.length Tryz.f36.ntmps = true) (h : aCode (Kn mo Tryz.prog) pusesOnlyBound.keep 0 pusesOnlyBound.code (doneS pusesOnlyBound.res r) ⟨argEnv 0 args, [], []⟩) : Abs.Ret mo Tryz.prog 36 args r [] :=
  Abs.Ret.of_irS hr Tryz.func36 rfl (by kernel_rfl) (Nat.le_of_ble_eq_true hn) (by kernel_rfl) (by kernel_rfl) h
abbrev pusesOnlyBound.Ret (args : List AV) (r : AV) (frs : Fr) : Prop := Abs.Ret true Tryz.prog 36 args r frs
def pmayStandAt.code : ACode := (.seq (.region false [s 2 (.box (t 0)), s 4 (.mv (.const (.bool false)))]) (.seq (.heldT [8, 9, 10, 11, 12, 13, 14, 15, 5, 6] (.alt (s 8 (.fadr 2 (t 2))) (.alt (s 9 (.load false 1 (t 8))) (.alt (s 10 (.mv (t 1))) (.alt (s 11 (.iadr 5 (t 9) (t 10))) (.alt (s 12 (.load true 5 (t 11))) (.alt (s 13 (.load true 4 (t 2))) (.alt (s 14 (.mv (t 1))) (.alt (s 15 (.call 60 [(t 13), (t 14)])) (.alt (s 5 (.alloc [(.int .i64 (.ofNat 0)), (.string (.mk (.mk []))), (.slice none 0 0), (.string (.mk (.mk []))), (.string (.mk (.mk [])))])) (.alt (s 6 (.alloc [(.slice none 0 0)])) .fin .none) (.alt (s 6 (.alloc [(.slice none 0 0)])) (.alt (s 5 (.alloc [(.int .i64 (.ofNat 0)), (.string (.mk (.mk []))), (.slice none 0 0), (.string (.mk (.mk []))), (.string (.mk (.mk [])))])) .fin .none) .none)) (.alt (s 5 (.alloc [(.int .i64 (.ofNat 0)), (.string (.mk (.mk []))), (.slice none 0 0), (.string (.mk (.mk []))), (.string (.mk (.mk [])))])) (.alt (s 15 (.call 60 [(t 13), (t 14)])) (.alt (s 6 (.alloc [(.slice none 0 0)])) .fin .none) (.alt (s 6 (.alloc [(.slice none 0 0)])) (.alt (s 15 (.call 60 [(t 13), (t 14)])) .fin .none) .none)) (.alt (s 6 (.alloc [(.slice none 0 0)])) (.alt (s 15 (.call 60 [(t 13), (t 14)])) (.alt (s 5 (.alloc [(.int .i64 (.ofNat 0)), (.string (.mk (.mk []))), (.slice none 0 0), (.string (.mk (.mk []))), (.string (.mk (.mk [])))])) .fin .none) (.alt (s 5 (.alloc [(.int .i64 (.ofNat 0)), (.string (.mk (.mk []))), (.slice none 0 0), (.string (.mk (.mk []))), (.string (.mk (.mk [])))])) (.alt (s 15 (.call 60 [(t 13), (t 14)])) .fin .none) .none)) .none))) .none) .none) .none) .none) .none) .none) .none) [⟨none, none, (.store 5 (t 5) (t 12))⟩, ⟨none, none, (.store 1 (t 6) (t 15))⟩]) (.seq (.seq (.region false [s 16 (.fadr 0 (t 5)), s 17 (.load false 1 (t 16))]) (.block 0 (.seq (.region false [s 19 (.bin .eql (t 17) (.const (.int .i64 1))), s 18 (.mv (t 19))]) (.cond (t 18) (.seq (.region false [s 4 (.mv (.const (.bool true)))]) .ret) (.seq (.region false [s 21 (.bin .eql (t 17) (.const (.int .i64 2))), s 20 (.mv (t 21))]) (.cond (t 20) (.seq (.heldT [22, 23, 24, 25, 26, 27, 28, 29, 30, 31, 32, 33, 34, 35, 36, 7] (.alt (s 22 (.fadr 2 (t 2))) (.alt (s 23 (.load false 1 (t 22))) (.alt (s 24 (.mv (t 1))) (.alt (s 25 (.slice false 5 (t 23) none (some (t 24)))) (.alt (s 26 (.fadr 2 (t 2))) (.alt (s 27 (.load false 1 (t 26))) (.alt (s 28 (.mv (t 1))) (.alt (s 29 (.bin .add (t 28) (.const (.int .i64 1)))) (.alt (s 30 (.slice false 5 (t 27) (some (t 29)) none)) (.alt (s 33 (.fadr 3 (t 2))) (.alt (s 34 (.load false 1 (t 33))) (.alt (s 31 (.bslice 28 1 true [(t 25), (t 30)])) (.alt (s 32 (.call 77 [(t 31)])) (.alt (s 35 (.build [(.string (.mk (.mk []))), (.int .i64 (.ofNat 0)), (.slice none 0 0), (.slice none 0 0)] [(2, 1), (3, 1)] [(t 32), (t 34)])) (.alt (s 36 (.call 76 [(t 35)])) (.alt (s 7 (.alloc [(.slice none 0 0)])) .fin .none) (.alt (s 7 (.alloc [(.slice none 0 0)])) (.alt (s 36 (.call 76 [(t 35)])) .fin .none) .none)) .none) (.alt (s 7 (.alloc [(.slice none 0 0)])) (.alt (s 32 (.call 77 [(t 31)])) (.alt (s 35 (.build [(.string (.mk (.mk []))), (.int .i64 (.ofNat 0)), (.slice none 0 0), (.slice none 0 0)] [(2, 1), (3, 1)] [(t 32), (t 34)])) (.alt (s 36 (.call 76 [(t 35)])) .fin .none) .none) .none) .none)) (.alt (s 7 (.alloc [(.slice none 0 0)])) (.alt (s 31 (.bslice 28 1 true [(t 25), (t 30)])) (.alt (s 32 (.call 77 [(t 31)])) (.alt (s 35 (.build [(.string (.mk (.mk []))), (.int .i64 (.ofNat 0)), (.slice none 0 0), (.slice none 0 0)] [(2, 1), (3, 1)] [(t 32), (t 34)])) (.alt (s 36 (.call 76 [(t 35)])) .fin .none) .none) .none) .none) .none)) .none) .none) .none) .none) .none) .none) .none) .none) .none) .none) .none) [⟨none, none, (.store 1 (t 7) (t 36))⟩]) (.seq (.region false [s 37 (.load true 5 (t 5)), s 38 (.call 64 [(t 37)]), s 39 (.clo 79 [] [(t 6), (t 7)]), s 40 (.call 78 [(t 38), (t 39)]), s 4 (.mv (t 40))]) .ret)) .skip)))))) (.seq (.held [s 41 (.load true 5 (t 5)), s 43 (.load false 1 (t 6)), s 42 (.call 64 [(t 41)])] [s 44 (.call 62 [(t 42), (t 43)]), s 4 (.mv (t 44))]) .ret))))
def pmayStandAt.keep : List Nat := [0, 1, 2, 4, 5, 6, 7, 17]
def pmayStandAt.res : List RRes := [.tmp 4]
theorem pmayStandAt.ofS {mo : Bool} {args : List AV} {r : AV} (hr : isScalR r = true) (hn : Nat.ble args.length Tryz.f59.ntmps = true) (h : aCode (Kn mo Tryz.prog) pmayStandAt.keep 0 pmayStandAt.code (doneS pmayStandAt.res r) ⟨argEnv 0 args, [], []⟩) : Abs.Ret mo Tryz.prog 59 args r [] :=
  Abs.Ret.of_irS hr Tryz.func59 rfl (by kernel_rfl) (Nat.le_of_ble_eq_true hn) (by kernel_rfl) (by kernel_rfl) h
abbrev pmayStandAt.Ret (args : List AV) (r : AV) (frs : Fr) : Prop := Abs.Ret true Tryz.prog 59 args r frs
def pareAmong.code : ACode := (.seq (.region false [s 3 (.box (t 1)), s 4 (.mv (.const (.bool false)))]) (.seq (.region false [s 5 (.mv (t 0)), s 6 (.clo 81 [] [(t 3)]), s 7 (.call 78 [(t 5), (t 6)]), s 4 (.mv (t 7))]) .ret))
def pareAmong.keep : List Nat := [0, 1, 3, 4]
def pareAmong.res : List RRes := [.tmp 4]
theorem pareAmong.of {mo : Bool} {args : List AV} {r : AV} {frs : Fr} (hn : Nat.ble args.length Tryz.f62.ntmps = true) (h : aCode (Kn mo Tryz.prog) pareAmong.keep 0 pareAmong.code (doneK pareAmong.res r frs) ⟨argEnv 0 args, [], []⟩) : Abs.Ret mo Tryz.prog 62 args r frs :=
  Abs.Ret.of_ir Tryz.func62 rfl (by kernel_rfl) (Nat.le_of_ble_eq_true hn) (by kernel_rfl) (by kernel_rfl) h
abbrev pareAmong.Ret (args : List AV) (r : AV) (frs : Fr) : Prop := Abs.Ret true Tryz.prog 62 args r frs
def pallC.code : ACode := (.seq (.region false [s 4 (.mv (.const (.bool false)))]) (.seq (.seq (.region false [s 7 (.mv (t 0)), s 8 (.len false (t 7)), s 9 (.mv (.const (.int .i64 0)))]) (.block 0 (.loop (.seq (.region false [s 10 (.bin .lss (t 9) (t 8))]) (.seq (.cond (t 10) .skip (.exit 0)) (.seq (.block 1 (.seq (.region false [s 11 (.iadr 5 (t 7) (t 9)), s 12 (.load true 5 (t 11)), s 6 (.alloc [(.int .i64 (.ofNat 0)), (.string (.mk (.mk []))), (.slice none 0 0), (.string (.mk (.mk []))), (.string (.mk (.mk [])))]), ⟨none, none, (.store 5 (t 6) (t 12))⟩]) (.seq (.region false [s 13 (.mv (t 1)), s 14 (.load true 5 (t 6)), s 15 (.callv (t 13) [(t 14)]), s 16 (.not (t 15))]) (.cond (t 16) (.seq (.region false [s 4 (.mv (.const (.bool false)))]) .ret) .skip)))) (.region false [s 17 (.bin .add (t 9) (.const (.int .i64 1))), s 9 (.mv (t 17))]))))))) (.seq (.region false [s 4 (.mv (.const (.bool true)))]) .ret)))
def pallC.keep : List Nat := [0, 1, 4, 6, 7, 8, 9, 10]
def pallC.res : List RRes := [.tmp 4]
theorem pallC.of {mo : Bool} {args : List AV} {r : AV} {frs : Fr} (hn : Nat.ble args.length Tryz.f42.ntmps = true) (h : aCode (Kn mo Tryz.prog) pallC.keep 0 pallC.code (doneK pallC.res r frs) ⟨argEnv 0 args, [], []⟩) : Abs.Ret mo Tryz.prog 42 args r frs :=
  Abs.Ret.of_ir Tryz.func42 rfl (by kernel_rfl) (Nat.le_of_ble_eq_true hn) (by kernel_rfl) (by kernel_rfl) h
abbrev pallC.Ret (args : List AV) (r : AV) (frs : Fr) : Prop := Abs.Ret true Tryz.prog 42 args r frs
def pallA.code : ACode := (.seq (.region false [s 4 (.mv (.const (.bool false)))]) (.seq (.seq (.region false [s 7 (.mv (t 0)), s 8 (.len false (t 7)), s 9 (.mv (.const (.int .i64 0)))]) (.block 0 (.loop (.seq (.region false [s 10 (.bin .lss (t 9) (t 8))]) (.seq (.cond (t 10) .skip (.exit 0)) (.seq (.block 1 (.seq (.region false [s 11 (.iadr 3 (t 7) (t 9)), s 12 (.load true 3 (t 11)), s 6 (.alloc [(.int .i64 (.ofNat 0)), (.string (.mk (.mk []))), (.slice none 0 0)]), ⟨none, none, (.store 3 (t 6) (t 12))⟩]) (.seq (.region false [s 13 (.mv (t 1)), s 14 (.load true 3 (t 6)), s 15 (.callv (t 13) [(t 14)]), s 16 (.not (t 15))]) (.cond (t 16) (.seq (.region false [s 4 (.mv (.const (.bool false)))]) .ret) .skip)))) (.region false [s 17 (.bin .add (t 9) (.const (.int .i64 1))), s 9 (.mv (t 17))]))))))) (.seq (.region false [s 4 (.mv (.const (.bool true)))]) .ret)))
def pallA.keep : List Nat := [0, 1, 4, 6, 7, 8, 9, 10]
def pallA.res : List RRes := [.tmp 4]
theorem pallA.of {mo : Bool} {args : List AV} {r : AV} {frs : Fr} (hn : Nat.ble args.length Tryz.f44.ntmps = true) (h : aCode (Kn mo Tryz.prog) pallA.keep 0 pallA.code (doneK pallA.res r frs) ⟨argEnv 0 args, [], []⟩) : Abs.Ret mo Tryz.prog 44 args r frs :=
  Abs.Ret.of_ir Tryz.func44 rfl (by kernel_rfl) (Nat.le_of_ble_eq_true hn) (by kernel_rfl) (by kernel_rfl) h
abbrev pallA.Ret (args : List AV) (r : AV) (frs : Fr) : Prop := Abs.Ret true Tryz.prog 44 args r frs
def pallS.code : ACode := (.seq (.region false [s 4 (.mv (.const (.bool false)))]) (.seq (.seq (.region false [s 7 (.mv (t 0)), s 8 (.len false (t 7)), s 9 (.mv (.const (.int .i64 0)))]) (.block 0 (.loop (.seq (.region false [s 10 (.bin .lss (t 9) (t 8))]) (.seq (.cond (t 10) .skip (.exit 0)) (.seq (.block 1 (.seq (.region false [s 11 (.iadr 1 (t 7) (t 9)), s 12 (.load false 1 (t 11)), s 6 (.mv (t 12))]) (.seq (.region false [s 13 (.mv (t 1)), s 14 (.mv (t 6)), s 15 (.callv (t 13) [(t 14)]), s 16 (.not (t 15))]) (.cond (t 16) (.seq (.region false [s 4 (.mv (.const (.bool false)))]) .ret) .skip)))) (.region false [s 17 (.bin .add (t 9) (.const (.int .i64 1))), s 9 (.mv (t 17))]))))))) (.seq (.region false [s 4 (.mv (.const (.bool true)))]) .ret)))
def pallS.keep : List Nat := [0, 1, 4, 6, 7, 8, 9, 10]
def pallS.res : List RRes := [.tmp 4]
theorem pallS.of {mo : Bool} {args : List AV} {r : AV} {frs : Fr} (hn : Nat.ble args.length Tryz.f78.ntmps = true) (h : aCode (Kn mo Tryz.prog) pallS.keep 0 pallS.code (doneK pallS.res r frs) ⟨argEnv 0 args, [], []⟩) : Abs.Ret mo Tryz.prog 78 args r frs :=
  Abs.Ret.of_ir Tryz.func78 rfl (by kernel_rfl) (Nat.le_of_ble_eq_true hn) (by kernel_rfl) (by kernel_rfl) h
abbrev pallS.Ret (args : List AV) (r : AV) (frs : Fr) : Prop := Abs.Ret true Tryz.prog 78 args r frs
def pmayClo.code : ACode := (.seq (.region false [s 4 (.mv (.const (.bool false)))]) (.seq (.region false [s 5 (.load false 1 (t 1)), s 6 (.mv (t 0)), s 7 (.call 80 [(t 5), (t 6)]), s 8 (.mv (t 7)), g 8 false 9 (.load false 1 (t 2)), g 8 false 10 (.mv (t 0)), g 8 false 11 (.call 80 [(t 9), (t 10)]), g 8 false 12 (.not (t 11)), s 13 (.or (t 8) (t 12)), s 4 (.mv (t 13))]) .ret))
def pmayClo.keep : List Nat := [0, 1, 2, 4]
def pmayClo.res : List RRes := [.tmp 4]
theorem pmayClo.of {mo : Bool} {args : List AV} {r : AV} {frs : Fr} (hn : Nat.ble args.length Tryz.f79.ntmps = true) (h : aCode (Kn mo Tryz.prog) pmayClo.keep 0 pmayClo.code (doneK pmayClo.res r frs) ⟨argEnv 0 args, [], []⟩) : Abs.Ret mo Tryz.prog 79 args r frs :=
  Abs.Ret.of_ir Tryz.func79 rfl (by kernel_rfl) (Nat.le_of_ble_eq_true hn) (by kernel_rfl) (by kernel_rfl) h
abbrev pmayClo.Ret (args : List AV) (r : AV) (frs : Fr) : Prop := Abs.Ret true Tryz.prog 79 args r frs
def pamongClo.code : ACode := (.seq (.region false [s 3 (.mv (.const (.bool false)))]) (.seq (.region false [s 4 (.load false 1 (t 1)), s 5 (.mv (t 0)), s 6 (.call 80 [(t 4), (t 5)]), s 3 (.mv (t 6))]) .ret))
def pamongClo.keep : List Nat := [0, 1, 3]
def pamongClo.res : List RRes := [.tmp 3]
theorem pamongClo.of {mo : Bool} {args : List AV} {r : AV} {frs : Fr} (hn : Nat.ble args.length Tryz.f81.ntmps = true) (h : aCode (Kn mo Tryz.prog) pamongClo.keep 0 pamongClo.code (doneK pamongClo.res r frs) ⟨argEnv 0 args, [], []⟩) : Abs.Ret mo Tryz.prog 81 args r frs :=
  Abs.Ret.of_ir Tryz.func81 rfl (by kernel_rfl) (Nat.le_of_ble_eq_true hn) (by kernel_rfl) (by kernel_rfl) h
abbrev pamongClo.Ret (args : List AV) (r : AV) (frs : Fr) : Prop := Abs.Ret true Tryz.prog 81 args r frs
def pusesClo.code : ACode := (.seq (.region false [s 2 (.box (t 0)), s 3 (.mv (.const (.bool false)))]) (.seq (.held [s 4 (.fadr 1 (t 2)), s 5 (.load true 2 (t 4)), s 7 (.load false 1 (t 1)), s 6 (.call 63 [(t 5)])] [s 8 (.call 62 [(t 6), (t 7)]), s 3 (.mv (t 8))]) .ret))
def pusesClo.keep : List Nat := [0, 1, 2, 3]
def pusesClo.res : List RRes := [.tmp 3]
theorem pusesClo.of {mo : Bool} {args : List AV} {r : AV} {frs : Fr} (hn : Nat.ble args.length Tryz.f61.ntmps = true) (h : aCode (Kn mo Tryz.prog) pusesClo.keep 0 pusesClo.code (doneK pusesClo.res r frs) ⟨argEnv 0 args, [], []⟩) : Abs.Ret mo Tryz.prog 61 args r frs :=
  Abs.Ret.of_ir Tryz.func61 rfl (by kernel_rfl) (Nat.le_of_ble_eq_true hn) (by kernel_rfl) (by kernel_rfl) h
abbrev pusesClo.Ret (args : List AV) (r : AV) (frs : Fr) : Prop := Abs.Ret true Tryz.prog 61 args r frs
def slConcatC.code : ACode := (.seq (.region false [s 2 (.mv (.const (.slice none 0 0)))]) (.seq (.region false [s 3 (.mv (.const (.int .i64 0)))]) (.seq (.seq (.region false [s 9 (.mv (t 0)), s 10 (.len false (t 9)), s 11 (.mv (.const (.int .i64 0)))]) (.block 0 (.loop (.seq (.region false [s 12 (.bin .lss (t 11) (t 10))]) (.seq (.cond (t 12) .skip (.exit 0)) (.seq (.block 1 (.seq (.region false [s 13 (.iadr 1 (t 9) (t 11)), s 14 (.load false 1 (t 13)), s 5 (.mv (t 14))]) (.seq (.region false [s 15 (.mv (t 3)), s 16 (.mv (t 5)), s 17 (.len false (t 16)), s 18 (.bin .add (t 15) (t 17)), s 3 (.mv (t 18))]) (.seq (.region false [s 19 (.mv (t 3)), s 20 (.bin .lss (t 19) (.const (.int .i64 0)))]) (.cond (t 20) (.region false [s 21 .other, ⟨none, none, .other⟩]) .skip))))) (.region false [s 22 (.bin .add (t 11) (.const (.int .i64 1))), s 11 (.mv (t 22))]))))))) (.seq (.region false [s 23 (.mv (t 3)), s 24 (.call 94 [(.const (.slice none 0 0)), (t 23)]), s 6 (.mv (t 24))]) (.seq (.seq (.region false [s 25 (.mv (t 0)), s 26 (.len false (t 25)), s 27 (.mv (.const (.int .i64 0)))]) (.block 2 (.loop (.seq (.region false [s 28 (.bin .lss (t 27) (t 26))]) (.seq (.cond (t 28) .skip (.exit 2)) (.seq (.block 3 (.seq (.region false [s 29 (.iadr 1 (t 25) (t 27)), s 30 (.load false 1 (t 29)), s 8 (.mv (t 30))]) (.region false [s 31 (.mv (t 6)), s 32 (.mv (t 8)), s 33 (.append 51 5 80 (t 31) (t 32)), s 6 (.mv (t 33))]))) (.region false [s 34 (.bin .add (t 27) (.const (.int .i64 1))), s 27 (.mv (t 34))]))))))) (.seq (.region false [s 35 (.mv (t 6)), s 2 (.mv (t 35))]) .ret))))))
def slConcatC.keep : List Nat := [0, 2, 3, 5, 6, 8, 9, 10, 11, 12, 25, 26, 27, 28]
def slConcatC.res : List RRes := [.tmp 2]
theorem slConcatC.of {mo : Bool} {args : List AV} {r : AV} {frs : Fr} (hn : Nat.ble args.length Tryz.f77.ntmps = true) (h : aCode (Kn mo Tryz.prog) slConcatC.keep 0 slConcatC.code (doneK slConcatC.res r frs) ⟨argEnv 0 args, [], []⟩) : Abs.Ret mo Tryz.prog 77 args r frs :=
  Abs.Ret.of_ir Tryz.func77 rfl (by kernel_rfl) (Nat.le_of_ble_eq_true hn) (by kernel_rfl) (by kernel_rfl) h
abbrev slConcatC.Ret (args : List AV) (r : AV) (frs : Fr) : Prop := Abs.Ret true Tryz.prog 77 args r frs
abbrev slGrowC.Ret (args : List AV) (r : AV) (frs : Fr) : Prop := Abs.Ret true Tryz.prog 94 args r frs
end Go.Proofs.YtimcfgokocihnaaGreat
namespace Go.Proofs.YtimcfgokocihnaaGreat
open Abs
set_option maxRecDepth 20000 in
set_option maxHeartbeats 4000000 in
theorem lawExactIsRule.of_ret (a0 : VRule) (hb0 : tRule.bd a0)
    (h : tRule.size a0 ≤ 1048576 → ∃ (r0 : Bool), sIsRule.Ret [.agg (oldL (tRule.q a0))] (.val (.bool r0)) [] ∧ pIsRule.Ret [.agg (oldL (tRule.q a0))] (.val (.bool r0)) []) :
    lawExactIsRule.Ret [.agg (oldL (tRule.q a0))] (.val (.bool true)) [] := by
  refine lawExactIsRule.ofS rfl rfl ?_
  by_cases c1 : (1048576 : Int) < (tRule.size a0 : Int)
  · have e0 : left 1048576 (tRule.size a0) = -1 := by rw [left, if_pos (by omega)]
    repeat' first
      | contradiction | exact trivial
      | (conv => whnf
         first | refine Need.mk (fun h => h) ?_ | refine Need.mk rfl ?_ | refine Need.mk ⟨rfl, Nat.le_of_ble_eq_true rfl⟩ ?_ | refine Need.mk (Nat.le_of_ble_eq_true rfl) ?_ | refine Need.fin ?_ | refine Need.mk ?_ ?_ | refine Ix.strsF rfl ?_ | refine Ix.strs rfl ?_ ?_ | refine Cut.strs rfl ?_ ?_ | refine Ix.mapF (fun _ => rfl) ?_ | refine Ix.map (fun _ => rfl) ?_ ?_ | refine Cut.map (fun _ => rfl) ?_ ?_ | refine Fork.yes (by assumption) ?_ | refine Fork.no (by assumption) ?_ | refine Fork.decYes (by omega) ?_ | refine Fork.decNo (by omega) ?_ | refine Fork.dec (fun _ => ?_) (fun _ => ?_) | refine Fork.bne (fun _ => ?_) (fun _ => ?_) | refine Fork.beq (fun _ => ?_) (fun _ => ?_) | refine Fork.seq (fun _ => ?_) (fun _ => ?_) | refine Fork.sne (fun _ => ?_) (fun _ => ?_) | refine Fork.neg (fun _ => ?_) (fun _ => ?_) | refine Fork.mk (fun _ => ?_) (fun _ => ?_) | refine HAlt.mk ?_ ?_ | apply HJoin.mk3 | exact HEnd.mk rfl rfl rfl | refine HEnd.mk ?_ ?_ ?_ | refine Round.mk ?_ | refine NilQ.mk (fun b hb => ?_) | refine forceK_of ?_ | refine forceBx_of ?_ | refine unG_old ?_ | refine unG_gv ?_ | refine Lit.read rfl ?_ | refine FinVal.keep ?_ | refine FinAgg.keep ?_ | refine Final.mk rfl rfl | refine Final.mk ?_ rfl | refine Final.mk ?_ ?_ | refine FinalT.mk ?_ ?_ | refine FinalC.allA ?_ | refine ACall.scalA _ _ (szRule.ret _ _ ?_ ?_ ?_) rfl ?_ | refine AQCall.mkA _ _ (fun hg => szRule.ret _ _ ?_ ?_ ?_) rfl ?_ | refine AGCall.mkA _ _ (fun hg => szRule.ret _ _ ?_ ?_ ?_) rfl ?_)
      | refine AV.bool_congr ?_ | refine AV.int_congr ?_ | refine AV.str_congr ?_ | refine AV.list_congr ?_ | with_reducible rfl | refine fr1 ?_ | refine fr2 ?_ ?_
    all_goals first
      | assumption
      | omega
  have e0 : left 1048576 (tRule.size a0) = 1048576 - (tRule.size a0 : Int) := by rw [left, if_neg (by omega)]
  obtain ⟨r0, hs, hp⟩ := h (by omega)
  repeat' first
    | contradiction | exact trivial
    | (conv => whnf
       first | refine Need.mk (fun h => h) ?_ | refine Need.mk rfl ?_ | refine Need.mk ⟨rfl, Nat.le_of_ble_eq_true rfl⟩ ?_ | refine Need.mk (Nat.le_of_ble_eq_true rfl) ?_ | refine Need.fin ?_ | refine Need.mk ?_ ?_ | refine Ix.strsF rfl ?_ | refine Ix.strs rfl ?_ ?_ | refine Cut.strs rfl ?_ ?_ | refine Ix.mapF (fun _ => rfl) ?_ | refine Ix.map (fun _ => rfl) ?_ ?_ | refine Cut.map (fun _ => rfl) ?_ ?_ | refine Fork.yes (by assumption) ?_ | refine Fork.no (by assumption) ?_ | refine Fork.decYes (by omega) ?_ | refine Fork.decNo (by omega) ?_ | refine Fork.dec (fun _ => ?_) (fun _ => ?_) | refine Fork.bne (fun _ => ?_) (fun _ => ?_) | refine Fork.beq (fun _ => ?_) (fun _ => ?_) | refine Fork.seq (fun _ => ?_) (fun _ => ?_) | refine Fork.sne (fun _ => ?_) (fun _ => ?_) | refine Fork.neg (fun _ => ?_) (fun _ => ?_) | refine Fork.mk (fun _ => ?_) (fun _ => ?_) | refine HAlt.mk ?_ ?_ | apply HJoin.mk3 | exact HEnd.mk rfl rfl rfl | refine HEnd.mk ?_ ?_ ?_ | refine Round.mk ?_ | refine NilQ.mk (fun b hb => ?_) | refine forceK_of ?_ | refine forceBx_of ?_ | refine unG_old ?_ | refine unG_gv ?_ | refine Lit.read rfl ?_ | refine FinVal.keep ?_ | refine FinAgg.keep ?_ | refine Final.mk rfl rfl | refine Final.mk ?_ rfl | refine Final.mk ?_ ?_ | refine FinalT.mk ?_ ?_ | refine FinalC.allA ?_ | refine ACall.scalA _ _ (szRule.ret _ _ ?_ ?_ ?_) rfl ?_ | refine AQCall.mkA _ _ (fun hg => szRule.ret _ _ ?_ ?_ ?_) rfl ?_ | refine AGCall.mkA _ _ (fun hg => szRule.ret _ _ ?_ ?_ ?_) rfl ?_ | refine ACall.scalA _ _ (hs) rfl ?_ | refine AQCall.mkA _ _ (fun hg => hs) rfl ?_ | refine AGCall.mkA _ _ (fun hg => hs) rfl ?_ | refine ACall.scalA _ _ (hp) rfl ?_ | refine AQCall.mkA _ _ (fun hg => hp) rfl ?_ | refine AGCall.mkA _ _ (fun hg => hp) rfl ?_ | refine ACall.oldA _ _ (toRule.own _ ?_) ?_ | refine AGCall.oldA _ _ (fun hg => toRule.own _ ?_) ?_ | refine ACall.scalA _ _ (eqRule.big _ _ ?_) rfl ?_ | refine AQCall.mkA _ _ (fun hg => eqRule.big _ _ ?_) rfl ?_ | refine AGCall.mkA _ _ (fun hg => eqRule.big _ _ ?_) rfl ?_)
    | refine AV.bool_congr ?_ | refine AV.int_congr ?_ | refine AV.str_congr ?_ | refine AV.list_congr ?_ | with_reducible rfl | refine fr1 ?_ | refine fr2 ?_ ?_
  all_goals first
    | assumption
    | omega
    | contradiction
    | (rename_i hx; simp at hx; done)
    | (rename_i hx _; simp at hx; done)
end Go.Proofs.YtimcfgokocihnaaGreat
namespace Go.Proofs.YtimcfgokocihnaaGreat
namespace Abs
theorem FinalC.all {Φ : AV → List ABox → Fr → Prop} {r : AV} {b : List ABox} {f : Fr} (h : Lends b b) (hk : Φ r b f) : FinalC Φ r b f := ⟨b, h, hk⟩
theorem FinalC.allA {Φ : AV → List ABox → Fr → Prop} {r : AV} {b : List ABox} {f : Fr} (hk : Φ r b f) (h : Lends b b := by repeat' first | exact Lends.nil | refine Lends.map _ ?_ | refine Lends.lend _ _ (by first | exact hx.1 | exact hy.1 | exact noTk_old _ | (intro c hc; rw [List.mem_singleton.1 hc]; rfl) | (intro c hc; cases hc; done)) ?_) : FinalC Φ r b f := ⟨b, h, hk⟩
section
variable {mo : Bool} {P : Program}
theorem own_post {B : Nat} {w' : World} {F' : Nat → Nat} {tok : List (Option Nat)} {box : List BId} {frs : Fr} {x : Tr} {r : AV} {v : Value} {ts : List Nat} (hrep : Rep B w' F' tok frs box r v) (ho : OwnA frs [x] [r] ts) (hn : ts.Nodup)
    (htin : ∀ (k b : Nat), tok[k]? = some (some b) → B ≤ b ∧ b < w'.heap.size) (htinj : ∀ (k l b : Nat), tok[k]? = some (some b) → tok[l]? = some (some b) → k = l) : ∃ ds, OwnL w' [x] [v] ds ∧ ds.Nodup ∧ ∀ d ∈ ds, B ≤ d ∧ d < w'.heap.size := by
  have hget : ∀ d, d ∈ ts.filterMap (fun k => (tok[k]?).join) → ∃ k ∈ ts, tok[k]? = some (some d) := fun d hd => by
    obtain ⟨k, hk, he⟩ := List.mem_filterMap.1 hd
    cases h : tok[k]? with
    | none => rw [h] at he; cases he
    | some o => rw [h] at he; cases o with
      | none => cases he
      | some b => cases he; exact ⟨k, hk, h⟩
  refine ⟨ts.filterMap fun k => (tok[k]?).join, ho.own (F := F') (box := box) (Both.cons.2 ⟨hrep, rfl, by simp⟩), ?_, fun d hd => ?_⟩
  · clear hrep ho
    induction ts with
    | nil => simp
    | cons k ts ih =>
      obtain ⟨n1, n2⟩ := List.nodup_cons.1 hn
      have hget' : ∀ d, d ∈ ts.filterMap (fun k => (tok[k]?).join) → ∃ k ∈ ts, tok[k]? = some (some d) := fun d hd => by
        obtain ⟨k, hk, he⟩ := List.mem_filterMap.1 hd
        cases h : tok[k]? with
        | none => rw [h] at he; cases he
        | some o => rw [h] at he; cases o with
          | none => cases he
          | some b => cases he; exact ⟨k, hk, h⟩
      rw [List.filterMap_cons]
      split
      · exact ih n2 hget'
      · rename_i b hb'
        refine List.nodup_cons.2 ⟨fun hm => ?_, ih n2 hget'⟩
        obtain ⟨k', hk', he'⟩ := hget' b hm
        have he : tok[k]? = some (some b) := by
          cases h : tok[k]? with
          | none => rw [h] at hb'; cases hb'
          | some o => rw [h] at hb'; cases o with
            | none => cases hb'
            | some b => cases hb'; rfl
        exact n1 (htinj k k' b he he' ▸ hk')
  · obtain ⟨k, _, hk⟩ := hget d hd
    exact htin k d hk
theorem Own.of_irP {fid : Nat} {fn : Func} {code : ACode} {rs : List RRes} {K : List Nat} {args : List AV} {x : Tr} (hf : P.funcs[fid]? = some fn) (hb : fn.body.isSome = true) (hm : (fn.name == "runtime.NumGoroutine") = false)
    (hn : args.length ≤ fn.ntmps) (hc : cCode P fn.ntmps (fn.body.getD .skip) = code) (hrs : fn.results.toList.map (cRes P) = rs)
    (h : aCode (Kn mo P) K 0 code (doneG rs fun r _ f => ∃ ts, OwnA f [x] [r] ts ∧ ts.Nodup) ⟨argEnv 0 args, [], []⟩) : Own mo P fid args x := by
  rw [Kn_eq] at h; rw [Own_eq]
  obtain ⟨c, hc'⟩ := Option.isSome_iff_exists.1 hb
  rw [hc', Option.getD_some] at hc
  rw [← hc, ← hrs] at h
  refine ⟨okFn_of hf hb hm, fun w F vs hout hargs => (calls_of_code hf hc' hn K h w F vs hout hargs).mono ?_⟩
  rintro e w' ⟨v, F', tok, box, r, b, frs, ⟨ts, ho, hnd⟩, rfl, hb, hold, ho', htl, htin, htinj, hrep⟩
  obtain ⟨ds, h1, h2, h3⟩ := own_post hrep ho hnd htin htinj
  exact ⟨v, ds, rfl, hb, h1, h2, h3⟩
end
end Abs
open Abs
theorem strs_flatten (l : List Str) : (strs l).flatten = l.map .str := by
  rw [strs_eq]; induction l with
  | nil => rfl
  | cons s l ih => rw [List.map_cons, List.flatten_cons, ih]; rfl
theorem noTk_texts {l : List Str} : ∀ c ∈ l.map AV.str, noTk c = true := fun c hc => by obtain ⟨s, _, rfl⟩ := List.mem_map.1 hc; rfl
theorem str_le {l : List Str} {i : Nat} (hi : i < l.length) : (l.getD i []).length ≤ listSize Ty.str l :=
  listSize_mem Ty.str (List.mem_of_getElem? (by simp [List.getD, hi] : l[i]? = some (l.getD i [])))
end Go.Proofs.YtimcfgokocihnaaGreat
