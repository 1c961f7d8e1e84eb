/-
  What stands below some laws' proofs, part 2: contracts of functions, by an evaluator.
-/
import Derived.Test.YtimcfgokocihnaaGreatZC1
namespace Go.Proofs.YtimcfgokocihnaaGreat
open Abs
def sIsAction.code : ACode := (.seq (.region false [s 1 (.box (t 0)), s 2 (.mv (.const (.bool false)))]) (.seq (.seq (.region false [s 3 (.fadr 0 (t 1)), s 4 (.load false 1 (t 3))]) (.block 0 (.seq (.seq (.region false [s 6 (.bin .eql (t 4) (.const (.int .i64 1))), s 5 (.mv (t 6))]) (.cond (t 5) .skip (.region false [s 7 (.bin .eql (t 4) (.const (.int .i64 2))), s 5 (.mv (t 7))]))) (.cond (t 5) (.seq (.region false [s 8 (.fadr 1 (t 1)), s 9 (.load true 2 (t 8)), s 10 (.call 50 [(t 9)]), s 2 (.mv (t 10))]) .ret) (.seq (.region false [s 12 (.bin .eql (t 4) (.const (.int .i64 3))), s 11 (.mv (t 12))]) (.cond (t 11) (.seq (.region false [s 13 (.fadr 1 (t 1)), s 14 (.fadr 0 (t 13)), s 15 (.load false 1 (t 14)), s 16 (.bin .eql (t 15) (.const (.string (.mk #[])))), s 17 (.mv (t 16)), g 17 true 18 (.fadr 1 (t 1)), g 17 true 19 (.fadr 1 (t 18)), g 17 true 20 (.load false 1 (t 19)), g 17 true 21 (.len false (t 20)), g 17 true 22 (.bin .eql (t 21) (.const (.int .i64 0))), s 23 (.and (t 17) (t 22)), s 2 (.mv (t 23))]) .ret) .skip)))))) (.seq (.region false [s 2 (.mv (.const (.bool false)))]) .ret)))
def sIsAction.keep : List Nat := [0, 1, 2, 4, 5]
def sIsAction.res : List RRes := [.tmp 2]
theorem sIsAction.of {mo : Bool} {args : List AV} {r : AV} {frs : Fr} (hn : Nat.ble args.length Tryz.f28.ntmps = true) (h : aCode (Kn mo Tryz.prog) sIsAction.keep 0 sIsAction.code (doneK sIsAction.res r frs) ⟨argEnv 0 args, [], []⟩) : Abs.Ret mo Tryz.prog 28 args r frs :=
  Abs.Ret.of_ir Tryz.func28 rfl (by kernel_rfl) (Nat.le_of_ble_eq_true hn) (by kernel_rfl) (by kernel_rfl) h
abbrev sIsAction.Ret (args : List AV) (r : AV) (frs : Fr) : Prop := Abs.Ret true Tryz.prog 28 args r frs
def pIsAction.code : ACode := (.seq (.region false [s 1 (.box (t 0)), s 2 (.mv (.const (.bool false)))]) (.seq (.seq (.region false [s 3 (.fadr 0 (t 1)), s 4 (.load false 1 (t 3))]) (.block 0 (.seq (.seq (.region false [s 6 (.bin .eql (t 4) (.const (.int .i64 1))), s 5 (.mv (t 6))]) (.cond (t 5) .skip (.region false [s 7 (.bin .eql (t 4) (.const (.int .i64 2))), s 5 (.mv (t 7))]))) (.cond (t 5) (.seq (.region false [s 8 (.fadr 1 (t 1)), s 9 (.load true 2 (t 8)), s 10 (.call 73 [(t 9)]), s 2 (.mv (t 10))]) .ret) (.seq (.region false [s 12 (.bin .eql (t 4) (.const (.int .i64 3))), s 11 (.mv (t 12))]) (.cond (t 11) (.seq (.region false [s 13 (.fadr 1 (t 1)), s 14 (.load true 2 (t 13)), s 15 (.build [(.string (.mk (.mk []))), (.slice none 0 0)] [] []), s 16 (.call 75 [(t 14), (t 15)]), s 2 (.mv (t 16))]) .ret) .skip)))))) (.seq (.region false [s 2 (.mv (.const (.bool false)))]) .ret)))
def pIsAction.keep : List Nat := [0, 1, 2, 4, 5]
def pIsAction.res : List RRes := [.tmp 2]
theorem pIsAction.of {mo : Bool} {args : List AV} {r : AV} {frs : Fr} (hn : Nat.ble args.length Tryz.f58.ntmps = true) (h : aCode (Kn mo Tryz.prog) pIsAction.keep 0 pIsAction.code (doneK pIsAction.res r frs) ⟨argEnv 0 args, [], []⟩) : Abs.Ret mo Tryz.prog 58 args r frs :=
  Abs.Ret.of_ir Tryz.func58 rfl (by kernel_rfl) (Nat.le_of_ble_eq_true hn) (by kernel_rfl) (by kernel_rfl) h
abbrev pIsAction.Ret (args : List AV) (r : AV) (frs : Fr) : Prop := Abs.Ret true Tryz.prog 58 args r frs
def sBoundVars.code : ACode := (.seq (.region false [s 2 (.box (t 0)), s 4 (.mv (.const (.slice none 0 0)))]) (.seq (.region false [s 9 (.bslice 9 1 true []), s 5 (.mv (t 9))]) (.seq (.seq (.region false [s 6 (.mv (.const (.int .i64 0)))]) (.block 0 (.loop (.seq (.seq (.region false [s 10 (.mv (t 6)), s 11 (.fadr 2 (t 2)), s 12 (.load false 1 (t 11)), s 13 (.len false (t 12)), s 14 (.bin .lss (t 10) (t 13)), s 15 (.mv (t 14)), g 15 true 16 (.mv (t 6)), g 15 true 17 (.mv (t 1)), g 15 true 18 (.bin .lss (t 16) (t 17)), s 19 (.and (t 15) (t 18))]) (.cond (t 19) .skip (.exit 0))) (.seq (.block 1 (.seq (.region false [s 22 (.fadr 2 (t 2)), s 23 (.load false 1 (t 22)), s 24 (.mv (t 6)), s 25 (.iadr 5 (t 23) (t 24)), s 26 (.fadr 0 (t 25)), s 27 (.load false 1 (t 26)), s 28 (.bin .eql (t 27) (.const (.int .i64 1)))]) (.cond (t 28) (.seq (.region false [s 29 (.fadr 2 (t 2)), s 30 (.load false 1 (t 29)), s 31 (.mv (t 6)), s 32 (.iadr 5 (t 30) (t 31)), s 33 (.fadr 1 (t 32)), s 34 (.load true 2 (t 33)), s 35 (.call 29 [(t 34)]), s 7 (.mv (t 35))]) (.seq (.region false [s 8 (.mv (.const (.int .i64 0)))]) (.block 2 (.loop (.seq (.seq (.region false [s 36 (.mv (t 8)), s 37 (.mv (t 7)), s 38 (.len false (t 37)), s 39 (.bin .lss (t 36) (t 38))]) (.cond (t 39) .skip (.exit 2))) (.seq (.block 3 (.region false [s 42 (.mv (t 5)), s 43 (.mv (t 7)), s 44 (.mv (t 8)), s 45 (.iadr 1 (t 43) (t 44)), s 46 (.load false 1 (t 45)), s 47 (.call 49 [(t 42), (t 46)]), s 5 (.mv (t 47))])) (.region false [s 40 (.mv (t 8)), s 41 (.bin .add (t 40) (.const (.int .i64 1))), s 8 (.mv (t 41))]))))))) .skip))) (.region false [s 20 (.mv (t 6)), s 21 (.bin .add (t 20) (.const (.int .i64 1))), s 6 (.mv (t 21))])))))) (.seq (.region false [s 48 (.mv (t 5)), s 4 (.mv (t 48))]) .ret))))
def sBoundVars.keep : List Nat := [0, 1, 2, 4, 5, 6, 7, 8]
def sBoundVars.res : List RRes := [.tmp 4]
abbrev sBoundVars.Own (args : List AV) (x : Tr) : Prop := Abs.Own true Tryz.prog 22 args x
def pBoundVars.code : ACode := (.seq (.region false [s 2 (.box (t 0)), s 4 (.mv (.const (.slice none 0 0)))]) (.seq (.region false [s 8 (.bslice 9 1 true []), s 5 (.mv (t 8))]) (.seq (.seq (.region false [s 9 (.fadr 2 (t 2)), s 10 (.load false 1 (t 9)), s 11 (.mv (t 1)), s 12 (.mm true (t 11) (.const (.int .i64 0))), s 13 (.fadr 2 (t 2)), s 14 (.load false 1 (t 13)), s 15 (.len false (t 14)), s 16 (.mm false (t 12) (t 15)), s 17 (.slice false 5 (t 10) none (some (t 16))), s 18 (.len false (t 17)), s 19 (.mv (.const (.int .i64 0)))]) (.block 0 (.loop (.seq (.region false [s 20 (.bin .lss (t 19) (t 18))]) (.seq (.cond (t 20) .skip (.exit 0)) (.seq (.block 1 (.seq (.region false [s 21 (.iadr 5 (t 17) (t 19)), s 22 (.load true 5 (t 21)), s 7 (.alloc [(.int .i64 (.ofNat 0)), (.string (.mk (.mk []))), (.slice none 0 0), (.string (.mk (.mk []))), (.string (.mk (.mk [])))]), ⟨none, none, (.store 5 (t 7) (t 22))⟩]) (.seq (.region false [s 23 (.fadr 0 (t 7)), s 24 (.load false 1 (t 23)), s 25 (.bin .eql (t 24) (.const (.int .i64 1)))]) (.cond (t 25) (.region false [s 26 (.mv (t 5)), s 27 (.fadr 1 (t 7)), s 28 (.load true 2 (t 27)), s 29 (.call 63 [(t 28)]), s 30 (.append 9 1 16 (t 26) (t 29)), s 5 (.mv (t 30))]) .skip)))) (.region false [s 31 (.bin .add (t 19) (.const (.int .i64 1))), s 19 (.mv (t 31))]))))))) (.seq (.region false [s 32 (.mv (t 5)), s 33 (.call 65 [(t 32)]), s 4 (.mv (t 33))]) .ret))))
def pBoundVars.keep : List Nat := [0, 1, 2, 4, 5, 7, 17, 18, 19, 20]
def pBoundVars.res : List RRes := [.tmp 4]
theorem pBoundVars.of {mo : Bool} {args : List AV} {r : AV} {frs : Fr} (hn : Nat.ble args.length Tryz.f60.ntmps = true) (h : aCode (Kn mo Tryz.prog) pBoundVars.keep 0 pBoundVars.code (doneK pBoundVars.res r frs) ⟨argEnv 0 args, [], []⟩) : Abs.Ret mo Tryz.prog 60 args r frs :=
  Abs.Ret.of_ir Tryz.func60 rfl (by kernel_rfl) (Nat.le_of_ble_eq_true hn) (by kernel_rfl) (by kernel_rfl) h
abbrev pBoundVars.Own (args : List AV) (x : Tr) : Prop := Abs.Own true Tryz.prog 60 args x
abbrev pBoundVars.Ret (args : List AV) (r : AV) (frs : Fr) : Prop := Abs.Ret true Tryz.prog 60 args r frs
def sRuleVars.code : ACode := (.seq (.region false [s 1 (.box (t 0)), s 2 (.mv (.const (.slice none 0 0)))]) (.seq (.region false [s 10 (.bslice 9 1 true []), s 3 (.mv (t 10))]) (.seq (.seq (.region false [s 4 (.mv (.const (.int .i64 0)))]) (.block 0 (.loop (.seq (.seq (.region false [s 11 (.mv (t 4)), s 12 (.fadr 2 (t 1)), s 13 (.load false 1 (t 12)), s 14 (.len false (t 13)), s 15 (.bin .lss (t 11) (t 14))]) (.cond (t 15) .skip (.exit 0))) (.seq (.block 1 (.seq (.region false [s 18 (.fadr 2 (t 1)), s 19 (.load false 1 (t 18)), s 20 (.mv (t 4)), s 21 (.iadr 5 (t 19) (t 20)), s 22 (.load true 5 (t 21)), s 23 (.call 24 [(t 22)]), s 5 (.mv (t 23))]) (.seq (.region false [s 6 (.mv (.const (.int .i64 0)))]) (.block 2 (.loop (.seq (.seq (.region false [s 24 (.mv (t 6)), s 25 (.mv (t 5)), s 26 (.len false (t 25)), s 27 (.bin .lss (t 24) (t 26))]) (.cond (t 27) .skip (.exit 2))) (.seq (.block 3 (.region false [s 30 (.mv (t 3)), s 31 (.mv (t 5)), s 32 (.mv (t 6)), s 33 (.iadr 1 (t 31) (t 32)), s 34 (.load false 1 (t 33)), s 35 (.call 49 [(t 30), (t 34)]), s 3 (.mv (t 35))])) (.region false [s 28 (.mv (t 6)), s 29 (.bin .add (t 28) (.const (.int .i64 1))), s 6 (.mv (t 29))])))))))) (.region false [s 16 (.mv (t 4)), s 17 (.bin .add (t 16) (.const (.int .i64 1))), s 4 (.mv (t 17))])))))) (.seq (.seq (.region false [s 7 (.mv (.const (.int .i64 0)))]) (.block 4 (.loop (.seq (.seq (.region false [s 36 (.mv (t 7)), s 37 (.fadr 3 (t 1)), s 38 (.load false 1 (t 37)), s 39 (.len false (t 38)), s 40 (.bin .lss (t 36) (t 39))]) (.cond (t 40) .skip (.exit 4))) (.seq (.block 5 (.seq (.region false [s 43 (.fadr 3 (t 1)), s 44 (.load false 1 (t 43)), s 45 (.mv (t 7)), s 46 (.iadr 3 (t 44) (t 45)), s 47 (.fadr 1 (t 46)), s 48 (.load true 2 (t 47)), s 49 (.call 29 [(t 48)]), s 8 (.mv (t 49))]) (.seq (.region false [s 9 (.mv (.const (.int .i64 0)))]) (.block 6 (.loop (.seq (.seq (.region false [s 50 (.mv (t 9)), s 51 (.mv (t 8)), s 52 (.len false (t 51)), s 53 (.bin .lss (t 50) (t 52))]) (.cond (t 53) .skip (.exit 6))) (.seq (.block 7 (.region false [s 56 (.mv (t 3)), s 57 (.mv (t 8)), s 58 (.mv (t 9)), s 59 (.iadr 1 (t 57) (t 58)), s 60 (.load false 1 (t 59)), s 61 (.call 49 [(t 56), (t 60)]), s 3 (.mv (t 61))])) (.region false [s 54 (.mv (t 9)), s 55 (.bin .add (t 54) (.const (.int .i64 1))), s 9 (.mv (t 55))])))))))) (.region false [s 41 (.mv (t 7)), s 42 (.bin .add (t 41) (.const (.int .i64 1))), s 7 (.mv (t 42))])))))) (.seq (.region false [s 62 (.mv (t 3)), s 2 (.mv (t 62))]) .ret)))))
def sRuleVars.keep : List Nat := [0, 1, 2, 3, 4, 5, 6, 7, 8, 9]
def sRuleVars.res : List RRes := [.tmp 2]
abbrev sRuleVars.Own (args : List AV) (x : Tr) : Prop := Abs.Own true Tryz.prog 30 args x
def pRuleVars.code : ACode := (.seq (.region false [s 1 (.box (t 0)), s 2 (.mv (.const (.slice none 0 0)))]) (.seq (.region false [s 6 (.fadr 2 (t 1)), s 7 (.load false 1 (t 6)), s 8 (.call 37 [(t 7)]), s 3 (.mv (t 8))]) (.seq (.seq (.region false [s 9 (.fadr 3 (t 1)), s 10 (.load false 1 (t 9)), s 11 (.len false (t 10)), s 12 (.mv (.const (.int .i64 0)))]) (.block 0 (.loop (.seq (.region false [s 13 (.bin .lss (t 12) (t 11))]) (.seq (.cond (t 13) .skip (.exit 0)) (.seq (.block 1 (.seq (.region false [s 14 (.iadr 3 (t 10) (t 12)), s 15 (.load true 3 (t 14)), s 5 (.alloc [(.int .i64 (.ofNat 0)), (.string (.mk (.mk []))), (.slice none 0 0)]), ⟨none, none, (.store 3 (t 5) (t 15))⟩]) (.region false [s 16 (.mv (t 3)), s 17 (.fadr 1 (t 5)), s 18 (.load true 2 (t 17)), s 19 (.call 63 [(t 18)]), s 20 (.append 9 1 16 (t 16) (t 19)), s 3 (.mv (t 20))]))) (.region false [s 21 (.bin .add (t 12) (.const (.int .i64 1))), s 12 (.mv (t 21))]))))))) (.seq (.region false [s 22 (.mv (t 3)), s 23 (.call 65 [(t 22)]), s 2 (.mv (t 23))]) .ret))))
def pRuleVars.keep : List Nat := [0, 1, 2, 3, 5, 10, 11, 12, 13]
def pRuleVars.res : List RRes := [.tmp 2]
theorem pRuleVars.of {mo : Bool} {args : List AV} {r : AV} {frs : Fr} (hn : Nat.ble args.length Tryz.f76.ntmps = true) (h : aCode (Kn mo Tryz.prog) pRuleVars.keep 0 pRuleVars.code (doneK pRuleVars.res r frs) ⟨argEnv 0 args, [], []⟩) : Abs.Ret mo Tryz.prog 76 args r frs :=
  Abs.Ret.of_ir Tryz.func76 rfl (by kernel_rfl) (Nat.le_of_ble_eq_true hn) (by kernel_rfl) (by kernel_rfl) h
abbrev pRuleVars.Own (args : List AV) (x : Tr) : Prop := Abs.Own true Tryz.prog 76 args x
abbrev pRuleVars.Ret (args : List AV) (r : AV) (frs : Fr) : Prop := Abs.Ret true Tryz.prog 76 args r frs
def sFindRule.code : ACode := (.seq (.region false [s 4 (.mv (.const (.int .i64 0)))]) (.seq (.seq (.region false [s 5 (.mv (.const (.int .i64 0)))]) (.block 0 (.loop (.seq (.seq (.region false [s 6 (.mv (t 5)), s 7 (.mv (t 0)), s 8 (.len false (t 7)), s 9 (.bin .lss (t 6) (t 8))]) (.cond (t 9) .skip (.exit 0))) (.seq (.block 1 (.seq (.region false [s 12 (.mv (t 0)), s 13 (.mv (t 5)), s 14 (.iadr 4 (t 12) (t 13)), s 15 (.fadr 0 (t 14)), s 16 (.load false 1 (t 15)), s 17 (.mv (t 1)), s 18 (.bin .eql (t 16) (t 17))]) (.cond (t 18) (.seq (.region false [s 19 (.mv (t 5)), s 4 (.mv (t 19))]) .ret) .skip))) (.region false [s 10 (.mv (t 5)), s 11 (.bin .add (t 10) (.const (.int .i64 1))), s 5 (.mv (t 11))])))))) (.seq (.region false [s 4 (.mv (.const (.int .i64 (-1))))]) .ret)))
def sFindRule.keep : List Nat := [0, 1, 4, 5]
def sFindRule.res : List RRes := [.tmp 4]
theorem sFindRule.of {mo : Bool} {args : List AV} {r : AV} {frs : Fr} (hn : Nat.ble args.length Tryz.f40.ntmps = true) (h : aCode (Kn mo Tryz.prog) sFindRule.keep 0 sFindRule.code (doneK sFindRule.res r frs) ⟨argEnv 0 args, [], []⟩) : Abs.Ret mo Tryz.prog 40 args r frs :=
  Abs.Ret.of_ir Tryz.func40 rfl (by kernel_rfl) (Nat.le_of_ble_eq_true hn) (by kernel_rfl) (by kernel_rfl) h
abbrev sFindRule.Ret (args : List AV) (r : AV) (frs : Fr) : Prop := Abs.Ret true Tryz.prog 40 args r frs
def pFindRule.code : ACode := (.seq (.region false [s 3 (.box (t 1)), s 4 (.mv (.const (.int .i64 0)))]) (.seq (.region false [s 5 (.mv (t 0)), s 6 (.clo 69 [] [(t 3)]), s 7 (.call 68 [(t 5), (t 6)]), s 4 (.mv (t 7))]) .ret))
def pFindRule.keep : List Nat := [0, 1, 3, 4]
def pFindRule.res : List RRes := [.tmp 4]
theorem pFindRule.of {mo : Bool} {args : List AV} {r : AV} {frs : Fr} (hn : Nat.ble args.length Tryz.f41.ntmps = true) (h : aCode (Kn mo Tryz.prog) pFindRule.keep 0 pFindRule.code (doneK pFindRule.res r frs) ⟨argEnv 0 args, [], []⟩) : Abs.Ret mo Tryz.prog 41 args r frs :=
  Abs.Ret.of_ir Tryz.func41 rfl (by kernel_rfl) (Nat.le_of_ble_eq_true hn) (by kernel_rfl) (by kernel_rfl) h
abbrev pFindRule.Ret (args : List AV) (r : AV) (frs : Fr) : Prop := Abs.Ret true Tryz.prog 41 args r frs
def pvarsOfConds.code : ACode := (.seq (.region false [s 2 (.mv (.const (.slice none 0 0)))]) (.seq (.region false [s 6 (.bslice 9 1 true []), s 3 (.mv (t 6))]) (.seq (.seq (.region false [s 7 (.mv (t 0)), s 8 (.len false (t 7)), s 9 (.mv (.const (.int .i64 0)))]) (.block 0 (.loop (.seq (.region false [s 10 (.bin .lss (t 9) (t 8))]) (.seq (.cond (t 10) .skip (.exit 0)) (.seq (.block 1 (.seq (.region false [s 11 (.iadr 5 (t 7) (t 9)), s 12 (.load true 5 (t 11)), s 5 (.alloc [(.int .i64 (.ofNat 0)), (.string (.mk (.mk []))), (.slice none 0 0), (.string (.mk (.mk []))), (.string (.mk (.mk [])))]), ⟨none, none, (.store 5 (t 5) (t 12))⟩]) (.region false [s 13 (.mv (t 3)), s 14 (.load true 5 (t 5)), s 15 (.call 64 [(t 14)]), s 16 (.append 9 1 16 (t 13) (t 15)), s 3 (.mv (t 16))]))) (.region false [s 17 (.bin .add (t 9) (.const (.int .i64 1))), s 9 (.mv (t 17))]))))))) (.seq (.region false [s 18 (.mv (t 3)), s 19 (.call 65 [(t 18)]), s 2 (.mv (t 19))]) .ret))))
def pvarsOfConds.keep : List Nat := [0, 2, 3, 5, 7, 8, 9, 10]
def pvarsOfConds.res : List RRes := [.tmp 2]
theorem pvarsOfConds.of {mo : Bool} {args : List AV} {r : AV} {frs : Fr} (hn : Nat.ble args.length Tryz.f37.ntmps = true) (h : aCode (Kn mo Tryz.prog) pvarsOfConds.keep 0 pvarsOfConds.code (doneK pvarsOfConds.res r frs) ⟨argEnv 0 args, [], []⟩) : Abs.Ret mo Tryz.prog 37 args r frs :=
  Abs.Ret.of_ir Tryz.func37 rfl (by kernel_rfl) (Nat.le_of_ble_eq_true hn) (by kernel_rfl) (by kernel_rfl) h
abbrev pvarsOfConds.Own (args : List AV) (x : Tr) : Prop := Abs.Own true Tryz.prog 37 args x
abbrev pvarsOfConds.Ret (args : List AV) (r : AV) (frs : Fr) : Prop := Abs.Ret true Tryz.prog 37 args r frs
def slIndexFuncR.code : ACode := (.seq (.region false [s 4 (.mv (.const (.int .i64 0)))]) (.seq (.seq (.region false [s 6 (.mv (t 0)), s 7 (.len false (t 6)), s 8 (.mv (.const (.int .i64 0)))]) (.block 0 (.loop (.seq (.region false [s 9 (.bin .lss (t 8) (t 7))]) (.seq (.cond (t 9) .skip (.exit 0)) (.seq (.block 1 (.seq (.region false [s 10 (.mv (t 8)), s 5 (.mv (t 10))]) (.seq (.region false [s 11 (.mv (t 1)), s 12 (.mv (t 0)), s 13 (.mv (t 5)), s 14 (.iadr 4 (t 12) (t 13)), s 15 (.load true 4 (t 14)), s 16 (.callv (t 11) [(t 15)])]) (.cond (t 16) (.seq (.region false [s 17 (.mv (t 5)), s 4 (.mv (t 17))]) .ret) .skip)))) (.region false [s 18 (.bin .add (t 8) (.const (.int .i64 1))), s 8 (.mv (t 18))]))))))) (.seq (.region false [s 4 (.mv (.const (.int .i64 (-1))))]) .ret)))
def slIndexFuncR.keep : List Nat := [0, 1, 4, 5, 7, 8, 9]
def slIndexFuncR.res : List RRes := [.tmp 4]
theorem slIndexFuncR.of {mo : Bool} {args : List AV} {r : AV} {frs : Fr} (hn : Nat.ble args.length Tryz.f68.ntmps = true) (h : aCode (Kn mo Tryz.prog) slIndexFuncR.keep 0 slIndexFuncR.code (doneK slIndexFuncR.res r frs) ⟨argEnv 0 args, [], []⟩) : Abs.Ret mo Tryz.prog 68 args r frs :=
  Abs.Ret.of_ir Tryz.func68 rfl (by kernel_rfl) (Nat.le_of_ble_eq_true hn) (by kernel_rfl) (by kernel_rfl) h
abbrev slIndexFuncR.Ret (args : List AV) (r : AV) (frs : Fr) : Prop := Abs.Ret true Tryz.prog 68 args r frs
def pFindRuleClo.code : ACode := (.seq (.region false [s 2 (.box (t 0)), s 3 (.mv (.const (.bool false)))]) (.seq (.region false [s 4 (.fadr 0 (t 2)), s 5 (.load false 1 (t 4)), s 6 (.load false 1 (t 1)), s 7 (.bin .eql (t 5) (t 6)), s 3 (.mv (t 7))]) .ret))
def pFindRuleClo.keep : List Nat := [0, 1, 2, 3]
def pFindRuleClo.res : List RRes := [.tmp 3]
theorem pFindRuleClo.of {mo : Bool} {args : List AV} {r : AV} {frs : Fr} (hn : Nat.ble args.length Tryz.f69.ntmps = true) (h : aCode (Kn mo Tryz.prog) pFindRuleClo.keep 0 pFindRuleClo.code (doneK pFindRuleClo.res r frs) ⟨argEnv 0 args, [], []⟩) : Abs.Ret mo Tryz.prog 69 args r frs :=
  Abs.Ret.of_ir Tryz.func69 rfl (by kernel_rfl) (Nat.le_of_ble_eq_true hn) (by kernel_rfl) (by kernel_rfl) h
abbrev pFindRuleClo.Ret (args : List AV) (r : AV) (frs : Fr) : Prop := Abs.Ret true Tryz.prog 69 args r frs
def sIsRule.code : ACode := (.seq (.region false [s 1 (.box (t 0)), s 2 (.mv (.const (.bool false)))]) (.seq (.seq (.region false [s 13 (.fadr 0 (t 1)), s 14 (.load false 1 (t 13)), s 15 (.call 20 [(t 14)]), s 16 (.not (t 15)), s 17 (.mv (t 16)), g 17 false 18 (.fadr 1 (t 1)), g 17 false 19 (.load false 1 (t 18)), g 17 false 20 (.call 21 [(t 19), (.const (.int .i64 0)), (.const (.int .i64 9))]), g 17 false 21 (.not (t 20)), s 22 (.or (t 17) (t 21)), s 23 (.mv (t 22)), g 23 false 24 (.fadr 2 (t 1)), g 23 false 25 (.load false 1 (t 24)), g 23 false 26 (.len false (t 25)), g 23 false 27 (.call 21 [(t 26), (.const (.int .i64 1)), (.const (.int .i64 4))]), g 23 false 28 (.not (t 27)), s 29 (.or (t 23) (t 28)), s 30 (.mv (t 29)), g 30 false 31 (.fadr 3 (t 1)), g 30 false 32 (.load false 1 (t 31)), g 30 false 33 (.len false (t 32)), g 30 false 34 (.call 21 [(t 33), (.const (.int .i64 1)), (.const (.int .i64 2))]), g 30 false 35 (.not (t 34)), s 36 (.or (t 30) (t 35))]) (.cond (t 36) (.seq (.region false [s 2 (.mv (.const (.bool false)))]) .ret) .skip)) (.seq (.region false [s 37 (.load true 4 (t 1)), s 38 (.fadr 2 (t 1)), s 39 (.load false 1 (t 38)), s 40 (.len false (t 39)), s 41 (.call 22 [(t 37), (t 40)]), s 3 (.mv (t 41))]) (.seq (.seq (.region false [s 4 (.mv (.const (.int .i64 0)))]) (.block 0 (.loop (.seq (.seq (.region false [s 42 (.mv (t 4)), s 43 (.fadr 2 (t 1)), s 44 (.load false 1 (t 43)), s 45 (.len false (t 44)), s 46 (.bin .lss (t 42) (t 45))]) (.cond (t 46) .skip (.exit 0))) (.seq (.block 1 (.seq (.region false [s 49 (.fadr 2 (t 1)), s 50 (.load false 1 (t 49)), s 51 (.mv (t 4)), s 52 (.iadr 5 (t 50) (t 51)), s 53 (.load true 5 (t 52)), s 5 (.alloc [(.int .i64 (.ofNat 0)), (.string (.mk (.mk []))), (.slice none 0 0), (.string (.mk (.mk []))), (.string (.mk (.mk [])))]), ⟨none, none, (.store 5 (t 5) (t 53))⟩]) (.seq (.seq (.region false [s 54 (.load true 5 (t 5)), s 55 (.call 23 [(t 54)]), s 56 (.not (t 55)), s 57 (.mv (t 56)), g 57 false 58 (.mv (t 4)), g 57 false 59 (.bin .eql (t 58) (.const (.int .i64 0))), g 57 false 60 (.mv (t 59)), g 60 true 61 (.fadr 0 (t 5)), g 60 true 62 (.load false 1 (t 61)), g 60 true 63 (.bin .neq (t 62) (.const (.int .i64 1))), g 57 false 64 (.and (t 60) (t 63)), s 65 (.or (t 57) (t 64))]) (.cond (t 65) (.seq (.region false [s 2 (.mv (.const (.bool false)))]) .ret) .skip)) (.seq (.region false [s 66 (.load true 4 (t 1)), s 67 (.mv (t 4)), s 68 (.call 22 [(t 66), (t 67)]), s 6 (.mv (t 68))]) (.seq (.region false [s 69 (.load true 5 (t 5)), s 70 (.call 24 [(t 69)]), s 7 (.mv (t 70))]) (.seq (.region false [s 8 (.mv (.const (.int .i64 0)))]) (.block 2 (.loop (.seq (.seq (.region false [s 71 (.mv (t 8)), s 72 (.mv (t 7)), s 73 (.len false (t 72)), s 74 (.bin .lss (t 71) (t 73))]) (.cond (t 74) .skip (.exit 2))) (.seq (.block 3 (.seq (.region false [s 77 (.mv (t 6)), s 78 (.mv (t 7)), s 79 (.mv (t 8)), s 80 (.iadr 1 (t 78) (t 79)), s 81 (.load false 1 (t 80)), s 82 (.call 25 [(t 77), (t 81)]), s 9 (.mv (t 82))]) (.seq (.region true [s 83 (.load true 5 (t 5)), s 84 (.call 26 [(t 83)]), s 85 (.mv (t 84)), g 85 true 86 (.mv (t 9)), g 85 true 87 (.not (t 86)), s 88 (.and (t 85) (t 87)), s 89 (.mv (t 88)), g 89 false 90 (.fadr 0 (t 5)), g 89 false 91 (.load false 1 (t 90)), g 89 false 92 (.bin .eql (t 91) (.const (.int .i64 2))), g 89 false 93 (.mv (t 92)), g 93 true 94 (.mv (t 9)), g 93 true 95 (.not (t 94)), g 89 false 96 (.and (t 93) (t 95)), g 89 false 97 (.mv (t 96)), g 97 true 98 (.load true 4 (t 1)), g 97 true 99 (.mv (t 4)), g 97 true 100 (.mv (t 7)), g 97 true 101 (.mv (t 8)), g 97 true 102 (.iadr 1 (t 100) (t 101)), g 97 true 103 (.load false 1 (t 102)), g 97 true 104 (.call 27 [(t 98), (t 99), (t 103)]), g 89 false 105 (.and (t 97) (t 104)), s 106 (.or (t 89) (t 105))]) (.cond (t 106) (.seq (.region false [s 2 (.mv (.const (.bool false)))]) .ret) .skip)))) (.region false [s 75 (.mv (t 8)), s 76 (.bin .add (t 75) (.const (.int .i64 1))), s 8 (.mv (t 76))]))))))))))) (.region false [s 47 (.mv (t 4)), s 48 (.bin .add (t 47) (.const (.int .i64 1))), s 4 (.mv (t 48))])))))) (.seq (.seq (.region false [s 10 (.mv (.const (.int .i64 0)))]) (.block 4 (.loop (.seq (.seq (.region false [s 107 (.mv (t 10)), s 108 (.fadr 3 (t 1)), s 109 (.load false 1 (t 108)), s 110 (.len false (t 109)), s 111 (.bin .lss (t 107) (t 110))]) (.cond (t 111) .skip (.exit 4))) (.seq (.block 5 (.seq (.seq (.region false [s 114 (.fadr 3 (t 1)), s 115 (.load false 1 (t 114)), s 116 (.mv (t 10)), s 117 (.iadr 3 (t 115) (t 116)), s 118 (.load true 3 (t 117)), s 119 (.call 28 [(t 118)]), s 120 (.not (t 119))]) (.cond (t 120) (.seq (.region false [s 2 (.mv (.const (.bool false)))]) .ret) .skip)) (.seq (.region false [s 121 (.fadr 3 (t 1)), s 122 (.load false 1 (t 121)), s 123 (.mv (t 10)), s 124 (.iadr 3 (t 122) (t 123)), s 125 (.fadr 1 (t 124)), s 126 (.load true 2 (t 125)), s 127 (.call 29 [(t 126)]), s 11 (.mv (t 127))]) (.seq (.region false [s 12 (.mv (.const (.int .i64 0)))]) (.block 6 (.loop (.seq (.seq (.region false [s 128 (.mv (t 12)), s 129 (.mv (t 11)), s 130 (.len false (t 129)), s 131 (.bin .lss (t 128) (t 130))]) (.cond (t 131) .skip (.exit 6))) (.seq (.block 7 (.seq (.region false [s 134 (.mv (t 3)), s 135 (.mv (t 11)), s 136 (.mv (t 12)), s 137 (.iadr 1 (t 135) (t 136)), s 138 (.load false 1 (t 137)), s 139 (.call 25 [(t 134), (t 138)]), s 140 (.not (t 139))]) (.cond (t 140) (.seq (.region false [s 2 (.mv (.const (.bool false)))]) .ret) .skip))) (.region false [s 132 (.mv (t 12)), s 133 (.bin .add (t 132) (.const (.int .i64 1))), s 12 (.mv (t 133))]))))))))) (.region false [s 112 (.mv (t 10)), s 113 (.bin .add (t 112) (.const (.int .i64 1))), s 10 (.mv (t 113))])))))) (.seq (.region false [s 141 (.load true 4 (t 1)), s 142 (.call 30 [(t 141)]), s 143 (.len false (t 142)), s 144 (.bin .leq (t 143) (.const (.int .i64 6))), s 2 (.mv (t 144))]) .ret))))))
def sIsRule.keep : List Nat := [0, 1, 2, 3, 4, 5, 6, 7, 8, 9, 10, 11, 12]
def sIsRule.res : List RRes := [.tmp 2]
theorem sIsRule.of {mo : Bool} {args : List AV} {r : AV} {frs : Fr} (hn : Nat.ble args.length Tryz.f7.ntmps = true) (h : aCode (Kn mo Tryz.prog) sIsRule.keep 0 sIsRule.code (doneK sIsRule.res r frs) ⟨argEnv 0 args, [], []⟩) : Abs.Ret mo Tryz.prog 7 args r frs :=
  Abs.Ret.of_ir Tryz.func7 rfl (by kernel_rfl) (Nat.le_of_ble_eq_true hn) (by kernel_rfl) (by kernel_rfl) h
abbrev sIsRule.Ret (args : List AV) (r : AV) (frs : Fr) : Prop := Abs.Ret true Tryz.prog 7 args r frs
def pIsRule.code : ACode := (.seq (.region false [s 1 (.box (t 0)), s 2 (.mv (.const (.bool false)))]) (.seq (.region false [s 3 (.fadr 0 (t 1)), s 4 (.load false 1 (t 3)), s 5 (.call 33 [(t 4)]), s 6 (.mv (t 5)), g 6 true 7 (.fadr 1 (t 1)), g 6 true 8 (.load false 1 (t 7)), g 6 true 9 (.bin .leq (.const (.int .i64 0)) (t 8)), s 10 (.and (t 6) (t 9)), s 11 (.mv (t 10)), g 11 true 12 (.fadr 1 (t 1)), g 11 true 13 (.load false 1 (t 12)), g 11 true 14 (.bin .leq (t 13) (.const (.int .i64 9))), s 15 (.and (t 11) (t 14)), s 16 (.mv (t 15)), g 16 true 17 (.fadr 2 (t 1)), g 16 true 18 (.load false 1 (t 17)), g 16 true 19 (.call 34 [(t 18)]), s 20 (.and (t 16) (t 19)), s 21 (.mv (t 20)), g 21 true 22 (.fadr 3 (t 1)), g 21 true 23 (.load false 1 (t 22)), g 21 true 24 (.call 35 [(t 23)]), s 25 (.and (t 21) (t 24)), s 26 (.mv (t 25)), g 26 true 27 (.load true 4 (t 1)), g 26 true 28 (.call 36 [(t 27)]), s 29 (.and (t 26) (t 28)), s 30 (.mv (t 29)), g 30 true 31 (.fadr 2 (t 1)), g 30 true 32 (.load false 1 (t 31)), g 30 true 33 (.call 37 [(t 32)]), g 30 true 34 (.len false (t 33)), g 30 true 35 (.bin .leq (t 34) (.const (.int .i64 6))), s 36 (.and (t 30) (t 35)), s 2 (.mv (t 36))]) .ret))
def pIsRule.keep : List Nat := [0, 1, 2]
def pIsRule.res : List RRes := [.tmp 2]
theorem pIsRule.ofS {mo : Bool} {args : List AV} {r : AV} (hr : isScalR r = true) (hn : Nat.ble args.length Tryz.f9.ntmps = true) (h : aCode (Kn mo Tryz.prog) pIsRule.keep 0 pIsRule.code (doneS pIsRule.res r) ⟨argEnv 0 args, [], []⟩) : Abs.Ret mo Tryz.prog 9 args r [] :=
  Abs.Ret.of_irS hr Tryz.func9 rfl (by kernel_rfl) (Nat.le_of_ble_eq_true hn) (by kernel_rfl) (by kernel_rfl) h
abbrev pIsRule.Ret (args : List AV) (r : AV) (frs : Fr) : Prop := Abs.Ret true Tryz.prog 9 args r frs
def sAreRules.code : ACode := (.seq (.region false [s 2 (.mv (.const (.bool false)))]) (.seq (.seq (.region false [s 3 (.mv (.const (.int .i64 0)))]) (.block 0 (.loop (.seq (.seq (.region false [s 4 (.mv (t 3)), s 5 (.mv (t 0)), s 6 (.len false (t 5)), s 7 (.bin .lss (t 4) (t 6))]) (.cond (t 7) .skip (.exit 0))) (.seq (.block 1 (.seq (.region false [s 10 (.mv (t 0)), s 11 (.mv (t 3)), s 12 (.iadr 4 (t 10) (t 11)), s 13 (.load true 4 (t 12)), s 14 (.call 7 [(t 13)]), s 15 (.not (t 14)), s 16 (.mv (t 15)), g 16 false 17 (.mv (t 0)), g 16 false 18 (.mv (t 0)), g 16 false 19 (.mv (t 3)), g 16 false 20 (.iadr 4 (t 18) (t 19)), g 16 false 21 (.fadr 0 (t 20)), g 16 false 22 (.load false 1 (t 21)), g 16 false 23 (.call 40 [(t 17), (t 22)]), g 16 false 24 (.mv (t 3)), g 16 false 25 (.bin .neq (t 23) (t 24)), s 26 (.or (t 16) (t 25))]) (.cond (t 26) (.seq (.region false [s 2 (.mv (.const (.bool false)))]) .ret) .skip))) (.region false [s 8 (.mv (t 3)), s 9 (.bin .add (t 8) (.const (.int .i64 1))), s 3 (.mv (t 9))])))))) (.seq (.region false [s 27 (.mv (t 0)), s 28 (.len false (t 27)), s 29 (.bin .leq (t 28) (.const (.int .i64 6))), s 2 (.mv (t 29))]) .ret)))
def sAreRules.keep : List Nat := [0, 2, 3]
def sAreRules.res : List RRes := [.tmp 2]
theorem sAreRules.ofS {mo : Bool} {args : List AV} {r : AV} (hr : isScalR r = true) (hn : Nat.ble args.length Tryz.f12.ntmps = true) (h : aCode (Kn mo Tryz.prog) sAreRules.keep 0 sAreRules.code (doneS sAreRules.res r) ⟨argEnv 0 args, [], []⟩) : Abs.Ret mo Tryz.prog 12 args r [] :=
  Abs.Ret.of_irS hr Tryz.func12 rfl (by kernel_rfl) (Nat.le_of_ble_eq_true hn) (by kernel_rfl) (by kernel_rfl) h
abbrev sAreRules.Ret (args : List AV) (r : AV) (frs : Fr) : Prop := Abs.Ret true Tryz.prog 12 args r frs
def pAreRules.code : ACode := (.seq (.region false [s 2 (.mv (.const (.bool false)))]) (.seq (.seq (.region false [s 5 (.mv (t 0)), s 6 (.len false (t 5)), s 7 (.bin .gtr (t 6) (.const (.int .i64 6)))]) (.cond (t 7) (.seq (.region false [s 2 (.mv (.const (.bool false)))]) .ret) .skip)) (.seq (.seq (.region false [s 8 (.mv (t 0)), s 9 (.len false (t 8)), s 10 (.mv (.const (.int .i64 0)))]) (.block 0 (.loop (.seq (.region false [s 11 (.bin .lss (t 10) (t 9))]) (.seq (.cond (t 11) .skip (.exit 0)) (.seq (.block 1 (.seq (.region false [s 12 (.mv (t 10)), s 13 (.iadr 4 (t 8) (t 10)), s 14 (.load true 4 (t 13)), s 4 (.alloc [(.string (.mk (.mk []))), (.int .i64 (.ofNat 0)), (.slice none 0 0), (.slice none 0 0)]), s 3 (.mv (t 12)), ⟨none, none, (.store 4 (t 4) (t 14))⟩]) (.seq (.region false [s 15 (.load true 4 (t 4)), s 16 (.call 9 [(t 15)]), s 17 (.not (t 16)), s 18 (.mv (t 17)), g 18 false 19 (.mv (t 0)), g 18 false 20 (.fadr 0 (t 4)), g 18 false 21 (.load false 1 (t 20)), g 18 false 22 (.call 41 [(t 19), (t 21)]), g 18 false 23 (.mv (t 3)), g 18 false 24 (.bin .neq (t 22) (t 23)), s 25 (.or (t 18) (t 24))]) (.cond (t 25) (.seq (.region false [s 2 (.mv (.const (.bool false)))]) .ret) .skip)))) (.region false [s 26 (.bin .add (t 10) (.const (.int .i64 1))), s 10 (.mv (t 26))]))))))) (.seq (.region false [s 2 (.mv (.const (.bool true)))]) .ret))))
def pAreRules.keep : List Nat := [0, 2, 3, 4, 8, 9, 10, 11]
def pAreRules.res : List RRes := [.tmp 2]
theorem pAreRules.ofS {mo : Bool} {args : List AV} {r : AV} (hr : isScalR r = true) (hn : Nat.ble args.length Tryz.f14.ntmps = true) (h : aCode (Kn mo Tryz.prog) pAreRules.keep 0 pAreRules.code (doneS pAreRules.res r) ⟨argEnv 0 args, [], []⟩) : Abs.Ret mo Tryz.prog 14 args r [] :=
  Abs.Ret.of_irS hr Tryz.func14 rfl (by kernel_rfl) (Nat.le_of_ble_eq_true hn) (by kernel_rfl) (by kernel_rfl) h
abbrev pAreRules.Ret (args : List AV) (r : AV) (frs : Fr) : Prop := Abs.Ret true Tryz.prog 14 args r frs
def sIsMonotone.code : ACode := (.seq (.region false [s 1 (.box (t 0)), s 2 (.mv (.const (.bool false)))]) (.seq (.seq (.region false [s 3 (.mv (.const (.int .i64 0)))]) (.block 0 (.loop (.seq (.seq (.region false [s 5 (.mv (t 3)), s 6 (.fadr 2 (t 1)), s 7 (.load false 1 (t 6)), s 8 (.len false (t 7)), s 9 (.bin .lss (t 5) (t 8))]) (.cond (t 9) .skip (.exit 0))) (.seq (.block 1 (.seq (.region false [s 12 (.fadr 2 (t 1)), s 13 (.load false 1 (t 12)), s 14 (.mv (t 3)), s 15 (.iadr 5 (t 13) (t 14)), s 16 (.fadr 0 (t 15)), s 17 (.load false 1 (t 16)), s 18 (.bin .eql (t 17) (.const (.int .i64 2)))]) (.cond (t 18) (.seq (.region false [s 2 (.mv (.const (.bool false)))]) .ret) .skip))) (.region false [s 10 (.mv (t 3)), s 11 (.bin .add (t 10) (.const (.int .i64 1))), s 3 (.mv (t 11))])))))) (.seq (.seq (.region false [s 4 (.mv (.const (.int .i64 0)))]) (.block 2 (.loop (.seq (.seq (.region false [s 19 (.mv (t 4)), s 20 (.fadr 3 (t 1)), s 21 (.load false 1 (t 20)), s 22 (.len false (t 21)), s 23 (.bin .lss (t 19) (t 22))]) (.cond (t 23) .skip (.exit 2))) (.seq (.block 3 (.seq (.region false [s 26 (.fadr 3 (t 1)), s 27 (.load false 1 (t 26)), s 28 (.mv (t 4)), s 29 (.iadr 3 (t 27) (t 28)), s 30 (.fadr 0 (t 29)), s 31 (.load false 1 (t 30)), s 32 (.bin .neq (t 31) (.const (.int .i64 1)))]) (.cond (t 32) (.seq (.region false [s 2 (.mv (.const (.bool false)))]) .ret) .skip))) (.region false [s 24 (.mv (t 4)), s 25 (.bin .add (t 24) (.const (.int .i64 1))), s 4 (.mv (t 25))])))))) (.seq (.region false [s 33 (.load true 4 (t 1)), s 34 (.call 7 [(t 33)]), s 2 (.mv (t 34))]) .ret))))
def sIsMonotone.keep : List Nat := [0, 1, 2, 3, 4]
def sIsMonotone.res : List RRes := [.tmp 2]
theorem sIsMonotone.of {mo : Bool} {args : List AV} {r : AV} {frs : Fr} (hn : Nat.ble args.length Tryz.f16.ntmps = true) (h : aCode (Kn mo Tryz.prog) sIsMonotone.keep 0 sIsMonotone.code (doneK sIsMonotone.res r frs) ⟨argEnv 0 args, [], []⟩) : Abs.Ret mo Tryz.prog 16 args r frs :=
  Abs.Ret.of_ir Tryz.func16 rfl (by kernel_rfl) (Nat.le_of_ble_eq_true hn) (by kernel_rfl) (by kernel_rfl) h
abbrev sIsMonotone.Ret (args : List AV) (r : AV) (frs : Fr) : Prop := Abs.Ret true Tryz.prog 16 args r frs
def pIsMonotone.code : ACode := (.seq (.region false [s 1 (.box (t 0)), s 2 (.mv (.const (.bool false)))]) (.seq (.region false [s 3 (.load true 4 (t 1)), s 4 (.call 9 [(t 3)]), s 5 (.mv (t 4)), g 5 true 6 (.fadr 2 (t 1)), g 5 true 7 (.load false 1 (t 6)), g 5 true 8 (.call 42 [(t 7), (.func 43)]), s 9 (.and (t 5) (t 8)), s 10 (.mv (t 9)), g 10 true 11 (.fadr 3 (t 1)), g 10 true 12 (.load false 1 (t 11)), g 10 true 13 (.call 44 [(t 12), (.func 45)]), s 14 (.and (t 10) (t 13)), s 2 (.mv (t 14))]) .ret))
def pIsMonotone.keep : List Nat := [0, 1, 2]
def pIsMonotone.res : List RRes := [.tmp 2]
theorem pIsMonotone.ofS {mo : Bool} {args : List AV} {r : AV} (hr : isScalR r = true) (hn : Nat.ble args.length Tryz.f17.ntmps = true) (h : aCode (Kn mo Tryz.prog) pIsMonotone.keep 0 pIsMonotone.code (doneS pIsMonotone.res r) ⟨argEnv 0 args, [], []⟩) : Abs.Ret mo Tryz.prog 17 args r [] :=
  Abs.Ret.of_irS hr Tryz.func17 rfl (by kernel_rfl) (Nat.le_of_ble_eq_true hn) (by kernel_rfl) (by kernel_rfl) h
abbrev pIsMonotone.Ret (args : List AV) (r : AV) (frs : Fr) : Prop := Abs.Ret true Tryz.prog 17 args r frs
def sElse.code : ACode := (.seq (.region false [s 3 (.box (t 0)), s 6 (.mv (.const (.bool false)))]) (.seq (.seq (.region false [s 7 (.mv (.const (.int .i64 0)))]) (.block 0 (.loop (.seq (.seq (.region false [s 9 (.mv (t 7)), s 10 (.fadr 2 (t 3)), s 11 (.load false 1 (t 10)), s 12 (.len false (t 11)), s 13 (.bin .lss (t 9) (t 12))]) (.cond (t 13) .skip (.exit 0))) (.seq (.block 1 (.seq (.region false [s 16 (.mv (t 7)), s 17 (.mv (t 1)), s 18 (.bin .neq (t 16) (t 17)), s 19 (.mv (t 18)), g 19 true 20 (.fadr 2 (t 3)), g 19 true 21 (.load false 1 (t 20)), g 19 true 22 (.mv (t 7)), g 19 true 23 (.iadr 5 (t 21) (t 22)), g 19 true 24 (.load true 5 (t 23)), g 19 true 25 (.call 24 [(t 24)]), g 19 true 26 (.mv (t 2)), g 19 true 27 (.call 25 [(t 25), (t 26)]), s 28 (.and (t 19) (t 27))]) (.cond (t 28) (.seq (.region false [s 6 (.mv (.const (.bool true)))]) .ret) .skip))) (.region false [s 14 (.mv (t 7)), s 15 (.bin .add (t 14) (.const (.int .i64 1))), s 7 (.mv (t 15))])))))) (.seq (.seq (.region false [s 8 (.mv (.const (.int .i64 0)))]) (.block 2 (.loop (.seq (.seq (.region false [s 29 (.mv (t 8)), s 30 (.fadr 3 (t 3)), s 31 (.load false 1 (t 30)), s 32 (.len false (t 31)), s 33 (.bin .lss (t 29) (t 32))]) (.cond (t 33) .skip (.exit 2))) (.seq (.block 3 (.seq (.region false [s 36 (.fadr 3 (t 3)), s 37 (.load false 1 (t 36)), s 38 (.mv (t 8)), s 39 (.iadr 3 (t 37) (t 38)), s 40 (.fadr 1 (t 39)), s 41 (.load true 2 (t 40)), s 42 (.call 29 [(t 41)]), s 43 (.mv (t 2)), s 44 (.call 25 [(t 42), (t 43)])]) (.cond (t 44) (.seq (.region false [s 6 (.mv (.const (.bool true)))]) .ret) .skip))) (.region false [s 34 (.mv (t 8)), s 35 (.bin .add (t 34) (.const (.int .i64 1))), s 8 (.mv (t 35))])))))) (.seq (.region false [s 6 (.mv (.const (.bool false)))]) .ret))))
def sElse.keep : List Nat := [0, 1, 2, 3, 6, 7, 8]
def sElse.res : List RRes := [.tmp 6]
theorem sElse.of {mo : Bool} {args : List AV} {r : AV} {frs : Fr} (hn : Nat.ble args.length Tryz.f27.ntmps = true) (h : aCode (Kn mo Tryz.prog) sElse.keep 0 sElse.code (doneK sElse.res r frs) ⟨argEnv 0 args, [], []⟩) : Abs.Ret mo Tryz.prog 27 args r frs :=
  Abs.Ret.of_ir Tryz.func27 rfl (by kernel_rfl) (Nat.le_of_ble_eq_true hn) (by kernel_rfl) (by kernel_rfl) h
abbrev sElse.Ret (args : List AV) (r : AV) (frs : Fr) : Prop := Abs.Ret true Tryz.prog 27 args r frs
def pareConds.code : ACode := (.seq (.region false [s 2 (.mv (.const (.bool false)))]) (.seq (.region false [s 3 (.mv (t 0)), s 4 (.len false (t 3)), s 5 (.bin .leq (.const (.int .i64 1)) (t 4)), s 6 (.mv (t 5)), g 6 true 7 (.mv (t 0)), g 6 true 8 (.len false (t 7)), g 6 true 9 (.bin .leq (t 8) (.const (.int .i64 4))), s 10 (.and (t 6) (t 9)), s 11 (.mv (t 10)), g 11 true 12 (.mv (t 0)), g 11 true 13 (.iadr 5 (t 12) (.const (.int .i64 0))), g 11 true 14 (.fadr 0 (t 13)), g 11 true 15 (.load false 1 (t 14)), g 11 true 16 (.bin .eql (t 15) (.const (.int .i64 1))), s 17 (.and (t 11) (t 16)), s 18 (.mv (t 17)), g 18 true 19 (.mv (t 0)), g 18 true 20 (.call 42 [(t 19), (.func 57)]), s 21 (.and (t 18) (t 20)), s 2 (.mv (t 21))]) .ret))
def pareConds.keep : List Nat := [0, 2]
def pareConds.res : List RRes := [.tmp 2]
theorem pareConds.of {mo : Bool} {args : List AV} {r : AV} {frs : Fr} (hn : Nat.ble args.length Tryz.f34.ntmps = true) (h : aCode (Kn mo Tryz.prog) pareConds.keep 0 pareConds.code (doneK pareConds.res r frs) ⟨argEnv 0 args, [], []⟩) : Abs.Ret mo Tryz.prog 34 args r frs :=
  Abs.Ret.of_ir Tryz.func34 rfl (by kernel_rfl) (Nat.le_of_ble_eq_true hn) (by kernel_rfl) (by kernel_rfl) h
abbrev pareConds.Ret (args : List AV) (r : AV) (frs : Fr) : Prop := Abs.Ret true Tryz.prog 34 args r frs
def pareActions.code : ACode := (.seq (.region false [s 2 (.mv (.const (.bool false)))]) (.seq (.region false [s 3 (.mv (t 0)), s 4 (.len false (t 3)), s 5 (.bin .leq (.const (.int .i64 1)) (t 4)), s 6 (.mv (t 5)), g 6 true 7 (.mv (t 0)), g 6 true 8 (.len false (t 7)), g 6 true 9 (.bin .leq (t 8) (.const (.int .i64 2))), s 10 (.and (t 6) (t 9)), s 11 (.mv (t 10)), g 11 true 12 (.mv (t 0)), g 11 true 13 (.call 44 [(t 12), (.func 58)]), s 14 (.and (t 11) (t 13)), s 2 (.mv (t 14))]) .ret))
def pareActions.keep : List Nat := [0, 2]
def pareActions.res : List RRes := [.tmp 2]
theorem pareActions.of {mo : Bool} {args : List AV} {r : AV} {frs : Fr} (hn : Nat.ble args.length Tryz.f35.ntmps = true) (h : aCode (Kn mo Tryz.prog) pareActions.keep 0 pareActions.code (doneK pareActions.res r frs) ⟨argEnv 0 args, [], []⟩) : Abs.Ret mo Tryz.prog 35 args r frs :=
  Abs.Ret.of_ir Tryz.func35 rfl (by kernel_rfl) (Nat.le_of_ble_eq_true hn) (by kernel_rfl) (by kernel_rfl) h
abbrev pareActions.Ret (args : List AV) (r : AV) (frs : Fr) : Prop := Abs.Ret true Tryz.prog 35 args r frs
def pusesOnlyBound.code : ACode := (.seq (.region false [s 1 (.box (t 0)), s 2 (.mv (.const (.bool false)))]) (.seq (.seq (.region false [s 5 (.fadr 2 (t 1)), s 6 (.load false 1 (t 5)), s 7 (.len false (t 6)), s 8 (.mv (.const (.int .i64 0)))]) (.block 0 (.loop (.seq (.region false [s 9 (.bin .lss (t 8) (t 7))]) (.seq (.cond (t 9) .skip (.exit 0)) (.seq (.block 1 (.seq (.region false [s 10 (.mv (t 8)), s 3 (.mv (t 10))]) (.seq (.region false [s 11 (.load true 4 (t 1)), s 12 (.mv (t 3)), s 13 (.call 59 [(t 11), (t 12)]), s 14 (.not (t 13))]) (.cond (t 14) (.seq (.region false [s 2 (.mv (.const (.bool false)))]) .ret) .skip)))) (.region false [s 15 (.bin .add (t 8) (.const (.int .i64 1))), s 8 (.mv (t 15))]))))))) (.seq (.region false [s 16 (.load true 4 (t 1)), s 17 (.fadr 2 (t 1)), s 18 (.load false 1 (t 17)), s 19 (.len false (t 18)), s 20 (.call 60 [(t 16), (t 19)]), s 4 (.alloc [(.slice none 0 0)]), ⟨none, none, (.store 1 (t 4) (t 20))⟩]) (.seq (.region false [s 21 (.fadr 3 (t 1)), s 22 (.load false 1 (t 21)), s 23 (.clo 61 [] [(t 4)]), s 24 (.call 44 [(t 22), (t 23)]), s 2 (.mv (t 24))]) .ret))))
def pusesOnlyBound.keep : List Nat := [0, 1, 2, 3, 4, 7, 8, 9]
def pusesOnlyBound.res : List RRes := [.tmp 2]
theorem pusesOnlyBound.ofS {mo : Bool} {args : List AV} {r : AV} (hr : isScalR r = true) (hn : Nat.ble args.length Tryz.f36.ntmps = true) (h : aCode (Kn mo Tryz.prog) pusesOnlyBound.keep 0 pusesOnlyBound.code (doneS pusesOnlyBound.res r) ⟨argEnv 0 args, [], []⟩) : Abs.Ret mo Tryz.prog 36 args r [] :=
  Abs.Ret.of_irS hr Tryz.func36 rfl (by kernel_rfl) (Nat.le_of_ble_eq_true hn) (by kernel_rfl) (by kernel_rfl) h
abbrev pusesOnlyBound.Ret (args : List AV) (r : AV) (frs : Fr) : Prop := Abs.Ret true Tryz.prog 36 args r frs
def pmayStandAt.code : ACode := (.seq (.region false [s 2 (.box (t 0)), s 4 (.mv (.const (.bool false)))]) (.seq (.heldT [8, 9, 10, 11, 12, 13, 14, 15, 5, 6] (.alt (s 8 (.fadr 2 (t 2))) (.alt (s 9 (.load false 1 (t 8))) (.alt (s 10 (.mv (t 1))) (.alt (s 11 (.iadr 5 (t 9) (t 10))) (.alt (s 12 (.load true 5 (t 11))) (.alt (s 13 (.load true 4 (t 2))) (.alt (s 14 (.mv (t 1))) (.alt (s 15 (.call 60 [(t 13), (t 14)])) (.alt (s 5 (.alloc [(.int .i64 (.ofNat 0)), (.string (.mk (.mk []))), (.slice none 0 0), (.string (.mk (.mk []))), (.string (.mk (.mk [])))])) (.alt (s 6 (.alloc [(.slice none 0 0)])) .fin .none) (.alt (s 6 (.alloc [(.slice none 0 0)])) (.alt (s 5 (.alloc [(.int .i64 (.ofNat 0)), (.string (.mk (.mk []))), (.slice none 0 0), (.string (.mk (.mk []))), (.string (.mk (.mk [])))])) .fin .none) .none)) (.alt (s 5 (.alloc [(.int .i64 (.ofNat 0)), (.string (.mk (.mk []))), (.slice none 0 0), (.string (.mk (.mk []))), (.string (.mk (.mk [])))])) (.alt (s 15 (.call 60 [(t 13), (t 14)])) (.alt (s 6 (.alloc [(.slice none 0 0)])) .fin .none) (.alt (s 6 (.alloc [(.slice none 0 0)])) (.alt (s 15 (.call 60 [(t 13), (t 14)])) .fin .none) .none)) (.alt (s 6 (.alloc [(.slice none 0 0)])) (.alt (s 15 (.call 60 [(t 13), (t 14)])) (.alt (s 5 (.alloc [(.int .i64 (.ofNat 0)), (.string (.mk (.mk []))), (.slice none 0 0), (.string (.mk (.mk []))), (.string (.mk (.mk [])))])) .fin .none) (.alt (s 5 (.alloc [(.int .i64 (.ofNat 0)), (.string (.mk (.mk []))), (.slice none 0 0), (.string (.mk (.mk []))), (.string (.mk (.mk [])))])) (.alt (s 15 (.call 60 [(t 13), (t 14)])) .fin .none) .none)) .none))) .none) .none) .none) .none) .none) .none) .none) [⟨none, none, (.store 5 (t 5) (t 12))⟩, ⟨none, none, (.store 1 (t 6) (t 15))⟩]) (.seq (.seq (.region false [s 16 (.fadr 0 (t 5)), s 17 (.load false 1 (t 16))]) (.block 0 (.seq (.region false [s 19 (.bin .eql (t 17) (.const (.int .i64 1))), s 18 (.mv (t 19))]) (.cond (t 18) (.seq (.region false [s 4 (.mv (.const (.bool true)))]) .ret) (.seq (.region false [s 21 (.bin .eql (t 17) (.const (.int .i64 2))), s 20 (.mv (t 21))]) (.cond (t 20) (.seq (.heldT [22, 23, 24, 25, 26, 27, 28, 29, 30, 31, 32, 33, 34, 35, 36, 7] (.alt (s 22 (.fadr 2 (t 2))) (.alt (s 23 (.load false 1 (t 22))) (.alt (s 24 (.mv (t 1))) (.alt (s 25 (.slice false 5 (t 23) none (some (t 24)))) (.alt (s 26 (.fadr 2 (t 2))) (.alt (s 27 (.load false 1 (t 26))) (.alt (s 28 (.mv (t 1))) (.alt (s 29 (.bin .add (t 28) (.const (.int .i64 1)))) (.alt (s 30 (.slice false 5 (t 27) (some (t 29)) none)) (.alt (s 33 (.fadr 3 (t 2))) (.alt (s 34 (.load false 1 (t 33))) (.alt (s 31 (.bslice 28 1 true [(t 25), (t 30)])) (.alt (s 32 (.call 77 [(t 31)])) (.alt (s 35 (.build [(.string (.mk (.mk []))), (.int .i64 (.ofNat 0)), (.slice none 0 0), (.slice none 0 0)] [(2, 1), (3, 1)] [(t 32), (t 34)])) (.alt (s 36 (.call 76 [(t 35)])) (.alt (s 7 (.alloc [(.slice none 0 0)])) .fin .none) (.alt (s 7 (.alloc [(.slice none 0 0)])) (.alt (s 36 (.call 76 [(t 35)])) .fin .none) .none)) .none) (.alt (s 7 (.alloc [(.slice none 0 0)])) (.alt (s 32 (.call 77 [(t 31)])) (.alt (s 35 (.build [(.string (.mk (.mk []))), (.int .i64 (.ofNat 0)), (.slice none 0 0), (.slice none 0 0)] [(2, 1), (3, 1)] [(t 32), (t 34)])) (.alt (s 36 (.call 76 [(t 35)])) .fin .none) .none) .none) .none)) (.alt (s 7 (.alloc [(.slice none 0 0)])) (.alt (s 31 (.bslice 28 1 true [(t 25), (t 30)])) (.alt (s 32 (.call 77 [(t 31)])) (.alt (s 35 (.build [(.string (.mk (.mk []))), (.int .i64 (.ofNat 0)), (.slice none 0 0), (.slice none 0 0)] [(2, 1), (3, 1)] [(t 32), (t 34)])) (.alt (s 36 (.call 76 [(t 35)])) .fin .none) .none) .none) .none) .none)) .none) .none) .none) .none) .none) .none) .none) .none) .none) .none) .none) [⟨none, none, (.store 1 (t 7) (t 36))⟩]) (.seq (.region false [s 37 (.load true 5 (t 5)), s 38 (.call 64 [(t 37)]), s 39 (.clo 79 [] [(t 6), (t 7)]), s 40 (.call 78 [(t 38), (t 39)]), s 4 (.mv (t 40))]) .ret)) .skip)))))) (.seq (.held [s 41 (.load true 5 (t 5)), s 43 (.load false 1 (t 6)), s 42 (.call 64 [(t 41)])] [s 44 (.call 62 [(t 42), (t 43)]), s 4 (.mv (t 44))]) .ret))))
def pmayStandAt.keep : List Nat := [0, 1, 2, 4, 5, 6, 7, 17]
def pmayStandAt.res : List RRes := [.tmp 4]
theorem pmayStandAt.ofS {mo : Bool} {args : List AV} {r : AV} (hr : isScalR r = true) (hn : Nat.ble args.length Tryz.f59.ntmps = true) (h : aCode (Kn mo Tryz.prog) pmayStandAt.keep 0 pmayStandAt.code (doneS pmayStandAt.res r) ⟨argEnv 0 args, [], []⟩) : Abs.Ret mo Tryz.prog 59 args r [] :=
  Abs.Ret.of_irS hr Tryz.func59 rfl (by kernel_rfl) (Nat.le_of_ble_eq_true hn) (by kernel_rfl) (by kernel_rfl) h
abbrev pmayStandAt.Ret (args : List AV) (r : AV) (frs : Fr) : Prop := Abs.Ret true Tryz.prog 59 args r frs
def pareAmong.code : ACode := (.seq (.region false [s 3 (.box (t 1)), s 4 (.mv (.const (.bool false)))]) (.seq (.region false [s 5 (.mv (t 0)), s 6 (.clo 81 [] [(t 3)]), s 7 (.call 78 [(t 5), (t 6)]), s 4 (.mv (t 7))]) .ret))
def pareAmong.keep : List Nat := [0, 1, 3, 4]
def pareAmong.res : List RRes := [.tmp 4]
theorem pareAmong.of {mo : Bool} {args : List AV} {r : AV} {frs : Fr} (hn : Nat.ble args.length Tryz.f62.ntmps = true) (h : aCode (Kn mo Tryz.prog) pareAmong.keep 0 pareAmong.code (doneK pareAmong.res r frs) ⟨argEnv 0 args, [], []⟩) : Abs.Ret mo Tryz.prog 62 args r frs :=
  Abs.Ret.of_ir Tryz.func62 rfl (by kernel_rfl) (Nat.le_of_ble_eq_true hn) (by kernel_rfl) (by kernel_rfl) h
abbrev pareAmong.Ret (args : List AV) (r : AV) (frs : Fr) : Prop := Abs.Ret true Tryz.prog 62 args r frs
def pallC.code : ACode := (.seq (.region false [s 4 (.mv (.const (.bool false)))]) (.seq (.seq (.region false [s 7 (.mv (t 0)), s 8 (.len false (t 7)), s 9 (.mv (.const (.int .i64 0)))]) (.block 0 (.loop (.seq (.region false [s 10 (.bin .lss (t 9) (t 8))]) (.seq (.cond (t 10) .skip (.exit 0)) (.seq (.block 1 (.seq (.region false [s 11 (.iadr 5 (t 7) (t 9)), s 12 (.load true 5 (t 11)), s 6 (.alloc [(.int .i64 (.ofNat 0)), (.string (.mk (.mk []))), (.slice none 0 0), (.string (.mk (.mk []))), (.string (.mk (.mk [])))]), ⟨none, none, (.store 5 (t 6) (t 12))⟩]) (.seq (.region false [s 13 (.mv (t 1)), s 14 (.load true 5 (t 6)), s 15 (.callv (t 13) [(t 14)]), s 16 (.not (t 15))]) (.cond (t 16) (.seq (.region false [s 4 (.mv (.const (.bool false)))]) .ret) .skip)))) (.region false [s 17 (.bin .add (t 9) (.const (.int .i64 1))), s 9 (.mv (t 17))]))))))) (.seq (.region false [s 4 (.mv (.const (.bool true)))]) .ret)))
def pallC.keep : List Nat := [0, 1, 4, 6, 7, 8, 9, 10]
def pallC.res : List RRes := [.tmp 4]
theorem pallC.of {mo : Bool} {args : List AV} {r : AV} {frs : Fr} (hn : Nat.ble args.length Tryz.f42.ntmps = true) (h : aCode (Kn mo Tryz.prog) pallC.keep 0 pallC.code (doneK pallC.res r frs) ⟨argEnv 0 args, [], []⟩) : Abs.Ret mo Tryz.prog 42 args r frs :=
  Abs.Ret.of_ir Tryz.func42 rfl (by kernel_rfl) (Nat.le_of_ble_eq_true hn) (by kernel_rfl) (by kernel_rfl) h
abbrev pallC.Ret (args : List AV) (r : AV) (frs : Fr) : Prop := Abs.Ret true Tryz.prog 42 args r frs
def pallA.code : ACode := (.seq (.region false [s 4 (.mv (.const (.bool false)))]) (.seq (.seq (.region false [s 7 (.mv (t 0)), s 8 (.len false (t 7)), s 9 (.mv (.const (.int .i64 0)))]) (.block 0 (.loop (.seq (.region false [s 10 (.bin .lss (t 9) (t 8))]) (.seq (.cond (t 10) .skip (.exit 0)) (.seq (.block 1 (.seq (.region false [s 11 (.iadr 3 (t 7) (t 9)), s 12 (.load true 3 (t 11)), s 6 (.alloc [(.int .i64 (.ofNat 0)), (.string (.mk (.mk []))), (.slice none 0 0)]), ⟨none, none, (.store 3 (t 6) (t 12))⟩]) (.seq (.region false [s 13 (.mv (t 1)), s 14 (.load true 3 (t 6)), s 15 (.callv (t 13) [(t 14)]), s 16 (.not (t 15))]) (.cond (t 16) (.seq (.region false [s 4 (.mv (.const (.bool false)))]) .ret) .skip)))) (.region false [s 17 (.bin .add (t 9) (.const (.int .i64 1))), s 9 (.mv (t 17))]))))))) (.seq (.region false [s 4 (.mv (.const (.bool true)))]) .ret)))
def pallA.keep : List Nat := [0, 1, 4, 6, 7, 8, 9, 10]
def pallA.res : List RRes := [.tmp 4]
theorem pallA.of {mo : Bool} {args : List AV} {r : AV} {frs : Fr} (hn : Nat.ble args.length Tryz.f44.ntmps = true) (h : aCode (Kn mo Tryz.prog) pallA.keep 0 pallA.code (doneK pallA.res r frs) ⟨argEnv 0 args, [], []⟩) : Abs.Ret mo Tryz.prog 44 args r frs :=
  Abs.Ret.of_ir Tryz.func44 rfl (by kernel_rfl) (Nat.le_of_ble_eq_true hn) (by kernel_rfl) (by kernel_rfl) h
abbrev pallA.Ret (args : List AV) (r : AV) (frs : Fr) : Prop := Abs.Ret true Tryz.prog 44 args r frs
def pallS.code : ACode := (.seq (.region false [s 4 (.mv (.const (.bool false)))]) (.seq (.seq (.region false [s 7 (.mv (t 0)), s 8 (.len false (t 7)), s 9 (.mv (.const (.int .i64 0)))]) (.block 0 (.loop (.seq (.region false [s 10 (.bin .lss (t 9) (t 8))]) (.seq (.cond (t 10) .skip (.exit 0)) (.seq (.block 1 (.seq (.region false [s 11 (.iadr 1 (t 7) (t 9)), s 12 (.load false 1 (t 11)), s 6 (.mv (t 12))]) (.seq (.region false [s 13 (.mv (t 1)), s 14 (.mv (t 6)), s 15 (.callv (t 13) [(t 14)]), s 16 (.not (t 15))]) (.cond (t 16) (.seq (.region false [s 4 (.mv (.const (.bool false)))]) .ret) .skip)))) (.region false [s 17 (.bin .add (t 9) (.const (.int .i64 1))), s 9 (.mv (t 17))]))))))) (.seq (.region false [s 4 (.mv (.const (.bool true)))]) .ret)))
def pallS.keep : List Nat := [0, 1, 4, 6, 7, 8, 9, 10]
def pallS.res : List RRes := [.tmp 4]
theorem pallS.of {mo : Bool} {args : List AV} {r : AV} {frs : Fr} (hn : Nat.ble args.length Tryz.f78.ntmps = true) (h : aCode (Kn mo Tryz.prog) pallS.keep 0 pallS.code (doneK pallS.res r frs) ⟨argEnv 0 args, [], []⟩) : Abs.Ret mo Tryz.prog 78 args r frs :=
  Abs.Ret.of_ir Tryz.func78 rfl (by kernel_rfl) (Nat.le_of_ble_eq_true hn) (by kernel_rfl) (by kernel_rfl) h
abbrev pallS.Ret (args : List AV) (r : AV) (frs : Fr) : Prop := Abs.Ret true Tryz.prog 78 args r frs
def pmayClo.code : ACode := (.seq (.region false [s 4 (.mv (.const (.bool false)))]) (.seq (.region false [s 5 (.load false 1 (t 1)), s 6 (.mv (t 0)), s 7 (.call 80 [(t 5), (t 6)]), s 8 (.mv (t 7)), g 8 false 9 (.load false 1 (t 2)), g 8 false 10 (.mv (t 0)), g 8 false 11 (.call 80 [(t 9), (t 10)]), g 8 false 12 (.not (t 11)), s 13 (.or (t 8) (t 12)), s 4 (.mv (t 13))]) .ret))
def pmayClo.keep : List Nat := [0, 1, 2, 4]
def pmayClo.res : List RRes := [.tmp 4]
theorem pmayClo.of {mo : Bool} {args : List AV} {r : AV} {frs : Fr} (hn : Nat.ble args.length Tryz.f79.ntmps = true) (h : aCode (Kn mo Tryz.prog) pmayClo.keep 0 pmayClo.code (doneK pmayClo.res r frs) ⟨argEnv 0 args, [], []⟩) : Abs.Ret mo Tryz.prog 79 args r frs :=
  Abs.Ret.of_ir Tryz.func79 rfl (by kernel_rfl) (Nat.le_of_ble_eq_true hn) (by kernel_rfl) (by kernel_rfl) h
abbrev pmayClo.Ret (args : List AV) (r : AV) (frs : Fr) : Prop := Abs.Ret true Tryz.prog 79 args r frs
def pamongClo.code : ACode := (.seq (.region false [s 3 (.mv (.const (.bool false)))]) (.seq (.region false [s 4 (.load false 1 (t 1)), s 5 (.mv (t 0)), s 6 (.call 80 [(t 4), (t 5)]), s 3 (.mv (t 6))]) .ret))
def pamongClo.keep : List Nat := [0, 1, 3]
def pamongClo.res : List RRes := [.tmp 3]
theorem pamongClo.of {mo : Bool} {args : List AV} {r : AV} {frs : Fr} (hn : Nat.ble args.length Tryz.f81.ntmps = true) (h : aCode (Kn mo Tryz.prog) pamongClo.keep 0 pamongClo.code (doneK pamongClo.res r frs) ⟨argEnv 0 args, [], []⟩) : Abs.Ret mo Tryz.prog 81 args r frs :=
  Abs.Ret.of_ir Tryz.func81 rfl (by kernel_rfl) (Nat.le_of_ble_eq_true hn) (by kernel_rfl) (by kernel_rfl) h
abbrev pamongClo.Ret (args : List AV) (r : AV) (frs : Fr) : Prop := Abs.Ret true Tryz.prog 81 args r frs
def pusesClo.code : ACode := (.seq (.region false [s 2 (.box (t 0)), s 3 (.mv (.const (.bool false)))]) (.seq (.held [s 4 (.fadr 1 (t 2)), s 5 (.load true 2 (t 4)), s 7 (.load false 1 (t 1)), s 6 (.call 63 [(t 5)])] [s 8 (.call 62 [(t 6), (t 7)]), s 3 (.mv (t 8))]) .ret))
def pusesClo.keep : List Nat := [0, 1, 2, 3]
def pusesClo.res : List RRes := [.tmp 3]
theorem pusesClo.of {mo : Bool} {args : List AV} {r : AV} {frs : Fr} (hn : Nat.ble args.length Tryz.f61.ntmps = true) (h : aCode (Kn mo Tryz.prog) pusesClo.keep 0 pusesClo.code (doneK pusesClo.res r frs) ⟨argEnv 0 args, [], []⟩) : Abs.Ret mo Tryz.prog 61 args r frs :=
  Abs.Ret.of_ir Tryz.func61 rfl (by kernel_rfl) (Nat.le_of_ble_eq_true hn) (by kernel_rfl) (by kernel_rfl) h
abbrev pusesClo.Ret (args : List AV) (r : AV) (frs : Fr) : Prop := Abs.Ret true Tryz.prog 61 args r frs
def pmono1.code : ACode := (.seq (.region false [s 1 (.box (t 0)), s 2 (.mv (.const (.bool false)))]) (.seq (.region false [s 3 (.fadr 0 (t 1)), s 4 (.load false 1 (t 3)), s 5 (.bin .neq (t 4) (.const (.int .i64 2))), s 2 (.mv (t 5))]) .ret))
def pmono1.keep : List Nat := [0, 1, 2]
def pmono1.res : List RRes := [.tmp 2]
theorem pmono1.of {mo : Bool} {args : List AV} {r : AV} {frs : Fr} (hn : Nat.ble args.length Tryz.f43.ntmps = true) (h : aCode (Kn mo Tryz.prog) pmono1.keep 0 pmono1.code (doneK pmono1.res r frs) ⟨argEnv 0 args, [], []⟩) : Abs.Ret mo Tryz.prog 43 args r frs :=
  Abs.Ret.of_ir Tryz.func43 rfl (by kernel_rfl) (Nat.le_of_ble_eq_true hn) (by kernel_rfl) (by kernel_rfl) h
abbrev pmono1.Ret (args : List AV) (r : AV) (frs : Fr) : Prop := Abs.Ret true Tryz.prog 43 args r frs
def pmono2.code : ACode := (.seq (.region false [s 1 (.box (t 0)), s 2 (.mv (.const (.bool false)))]) (.seq (.region false [s 3 (.fadr 0 (t 1)), s 4 (.load false 1 (t 3)), s 5 (.bin .eql (t 4) (.const (.int .i64 1))), s 2 (.mv (t 5))]) .ret))
def pmono2.keep : List Nat := [0, 1, 2]
def pmono2.res : List RRes := [.tmp 2]
theorem pmono2.of {mo : Bool} {args : List AV} {r : AV} {frs : Fr} (hn : Nat.ble args.length Tryz.f45.ntmps = true) (h : aCode (Kn mo Tryz.prog) pmono2.keep 0 pmono2.code (doneK pmono2.res r frs) ⟨argEnv 0 args, [], []⟩) : Abs.Ret mo Tryz.prog 45 args r frs :=
  Abs.Ret.of_ir Tryz.func45 rfl (by kernel_rfl) (Nat.le_of_ble_eq_true hn) (by kernel_rfl) (by kernel_rfl) h
abbrev pmono2.Ret (args : List AV) (r : AV) (frs : Fr) : Prop := Abs.Ret true Tryz.prog 45 args r frs
def slConcatC.code : ACode := (.seq (.region false [s 2 (.mv (.const (.slice none 0 0)))]) (.seq (.region false [s 3 (.mv (.const (.int .i64 0)))]) (.seq (.seq (.region false [s 9 (.mv (t 0)), s 10 (.len false (t 9)), s 11 (.mv (.const (.int .i64 0)))]) (.block 0 (.loop (.seq (.region false [s 12 (.bin .lss (t 11) (t 10))]) (.seq (.cond (t 12) .skip (.exit 0)) (.seq (.block 1 (.seq (.region false [s 13 (.iadr 1 (t 9) (t 11)), s 14 (.load false 1 (t 13)), s 5 (.mv (t 14))]) (.seq (.region false [s 15 (.mv (t 3)), s 16 (.mv (t 5)), s 17 (.len false (t 16)), s 18 (.bin .add (t 15) (t 17)), s 3 (.mv (t 18))]) (.seq (.region false [s 19 (.mv (t 3)), s 20 (.bin .lss (t 19) (.const (.int .i64 0)))]) (.cond (t 20) (.region false [s 21 .other, ⟨none, none, .other⟩]) .skip))))) (.region false [s 22 (.bin .add (t 11) (.const (.int .i64 1))), s 11 (.mv (t 22))]))))))) (.seq (.region false [s 23 (.mv (t 3)), s 24 (.call 94 [(.const (.slice none 0 0)), (t 23)]), s 6 (.mv (t 24))]) (.seq (.seq (.region false [s 25 (.mv (t 0)), s 26 (.len false (t 25)), s 27 (.mv (.const (.int .i64 0)))]) (.block 2 (.loop (.seq (.region false [s 28 (.bin .lss (t 27) (t 26))]) (.seq (.cond (t 28) .skip (.exit 2)) (.seq (.block 3 (.seq (.region false [s 29 (.iadr 1 (t 25) (t 27)), s 30 (.load false 1 (t 29)), s 8 (.mv (t 30))]) (.region false [s 31 (.mv (t 6)), s 32 (.mv (t 8)), s 33 (.append 51 5 80 (t 31) (t 32)), s 6 (.mv (t 33))]))) (.region false [s 34 (.bin .add (t 27) (.const (.int .i64 1))), s 27 (.mv (t 34))]))))))) (.seq (.region false [s 35 (.mv (t 6)), s 2 (.mv (t 35))]) .ret))))))
def slConcatC.keep : List Nat := [0, 2, 3, 5, 6, 8, 9, 10, 11, 12, 25, 26, 27, 28]
def slConcatC.res : List RRes := [.tmp 2]
theorem slConcatC.of {mo : Bool} {args : List AV} {r : AV} {frs : Fr} (hn : Nat.ble args.length Tryz.f77.ntmps = true) (h : aCode (Kn mo Tryz.prog) slConcatC.keep 0 slConcatC.code (doneK slConcatC.res r frs) ⟨argEnv 0 args, [], []⟩) : Abs.Ret mo Tryz.prog 77 args r frs :=
  Abs.Ret.of_ir Tryz.func77 rfl (by kernel_rfl) (Nat.le_of_ble_eq_true hn) (by kernel_rfl) (by kernel_rfl) h
abbrev slConcatC.Ret (args : List AV) (r : AV) (frs : Fr) : Prop := Abs.Ret true Tryz.prog 77 args r frs
abbrev slGrowC.Ret (args : List AV) (r : AV) (frs : Fr) : Prop := Abs.Ret true Tryz.prog 94 args r frs
end Go.Proofs.YtimcfgokocihnaaGreat
namespace Go.Proofs.YtimcfgokocihnaaGreat
open Abs
set_option maxRecDepth 20000 in
set_option maxHeartbeats 4000000 in
theorem lawExactAreRules.of_ret (a0 : List VRule) (hb0 : tRules.bd a0)
    (h : tRules.size a0 ≤ 1048576 → ∃ (r0 : Bool), sAreRules.Ret [.list none (rows tRule a0)] (.val (.bool r0)) [] ∧ pAreRules.Ret [.list none (rows tRule a0)] (.val (.bool r0)) []) :
    lawExactAreRules.Ret [.list none (rows tRule a0)] (.val (.bool true)) [] := by
  refine lawExactAreRules.ofS rfl rfl ?_
  by_cases c1 : (1048576 : Int) < (tRules.size a0 : Int)
  · have e0 : left 1048576 (tRules.size a0) = -1 := by rw [left, if_pos (by omega)]
    repeat' first
      | contradiction | exact trivial
      | (conv => whnf
         first | refine Need.mk (fun h => h) ?_ | refine Need.mk rfl ?_ | refine Need.mk ⟨rfl, Nat.le_of_ble_eq_true rfl⟩ ?_ | refine Need.mk (Nat.le_of_ble_eq_true rfl) ?_ | refine Need.fin ?_ | refine Need.mk ?_ ?_ | refine Ix.strsF rfl ?_ | refine Ix.strs rfl ?_ ?_ | refine Cut.strs rfl ?_ ?_ | refine Ix.mapF (fun _ => rfl) ?_ | refine Ix.map (fun _ => rfl) ?_ ?_ | refine Cut.map (fun _ => rfl) ?_ ?_ | refine Fork.yes (by assumption) ?_ | refine Fork.no (by assumption) ?_ | refine Fork.decYes (by omega) ?_ | refine Fork.decNo (by omega) ?_ | refine Fork.dec (fun _ => ?_) (fun _ => ?_) | refine Fork.bne (fun _ => ?_) (fun _ => ?_) | refine Fork.beq (fun _ => ?_) (fun _ => ?_) | refine Fork.seq (fun _ => ?_) (fun _ => ?_) | refine Fork.sne (fun _ => ?_) (fun _ => ?_) | refine Fork.neg (fun _ => ?_) (fun _ => ?_) | refine Fork.mk (fun _ => ?_) (fun _ => ?_) | refine HAlt.mk ?_ ?_ | apply HJoin.mk3 | exact HEnd.mk rfl rfl rfl | refine HEnd.mk ?_ ?_ ?_ | refine Round.mk ?_ | refine NilQ.mk (fun b hb => ?_) | refine forceK_of ?_ | refine forceBx_of ?_ | refine unG_old ?_ | refine unG_gv ?_ | refine Lit.read rfl ?_ | refine FinVal.keep ?_ | refine FinAgg.keep ?_ | refine Final.mk rfl rfl | refine Final.mk ?_ rfl | refine Final.mk ?_ ?_ | refine FinalT.mk ?_ ?_ | refine FinalC.allA ?_ | refine ACall.scalA _ _ (szRuleS.ret _ _ ?_ ?_ ?_) rfl ?_ | refine AQCall.mkA _ _ (fun hg => szRuleS.ret _ _ ?_ ?_ ?_) rfl ?_ | refine AGCall.mkA _ _ (fun hg => szRuleS.ret _ _ ?_ ?_ ?_) rfl ?_)
      | refine AV.bool_congr ?_ | refine AV.int_congr ?_ | refine AV.str_congr ?_ | refine AV.list_congr ?_ | with_reducible rfl | refine fr1 ?_ | refine fr2 ?_ ?_
    all_goals first
      | assumption
      | omega
  have e0 : left 1048576 (tRules.size a0) = 1048576 - (tRules.size a0 : Int) := by rw [left, if_neg (by omega)]
  obtain ⟨r0, hs, hp⟩ := h (by omega)
  repeat' first
    | contradiction | exact trivial
    | (conv => whnf
       first | refine Need.mk (fun h => h) ?_ | refine Need.mk rfl ?_ | refine Need.mk ⟨rfl, Nat.le_of_ble_eq_true rfl⟩ ?_ | refine Need.mk (Nat.le_of_ble_eq_true rfl) ?_ | refine Need.fin ?_ | refine Need.mk ?_ ?_ | refine Ix.strsF rfl ?_ | refine Ix.strs rfl ?_ ?_ | refine Cut.strs rfl ?_ ?_ | refine Ix.mapF (fun _ => rfl) ?_ | refine Ix.map (fun _ => rfl) ?_ ?_ | refine Cut.map (fun _ => rfl) ?_ ?_ | refine Fork.yes (by assumption) ?_ | refine Fork.no (by assumption) ?_ | refine Fork.decYes (by omega) ?_ | refine Fork.decNo (by omega) ?_ | refine Fork.dec (fun _ => ?_) (fun _ => ?_) | refine Fork.bne (fun _ => ?_) (fun _ => ?_) | refine Fork.beq (fun _ => ?_) (fun _ => ?_) | refine Fork.seq (fun _ => ?_) (fun _ => ?_) | refine Fork.sne (fun _ => ?_) (fun _ => ?_) | refine Fork.neg (fun _ => ?_) (fun _ => ?_) | refine Fork.mk (fun _ => ?_) (fun _ => ?_) | refine HAlt.mk ?_ ?_ | apply HJoin.mk3 | exact HEnd.mk rfl rfl rfl | refine HEnd.mk ?_ ?_ ?_ | refine Round.mk ?_ | refine NilQ.mk (fun b hb => ?_) | refine forceK_of ?_ | refine forceBx_of ?_ | refine unG_old ?_ | refine unG_gv ?_ | refine Lit.read rfl ?_ | refine FinVal.keep ?_ | refine FinAgg.keep ?_ | refine Final.mk rfl rfl | refine Final.mk ?_ rfl | refine Final.mk ?_ ?_ | refine FinalT.mk ?_ ?_ | refine FinalC.allA ?_ | refine ACall.scalA _ _ (szRuleS.ret _ _ ?_ ?_ ?_) rfl ?_ | refine AQCall.mkA _ _ (fun hg => szRuleS.ret _ _ ?_ ?_ ?_) rfl ?_ | refine AGCall.mkA _ _ (fun hg => szRuleS.ret _ _ ?_ ?_ ?_) rfl ?_ | refine ACall.scalA _ _ (hs) rfl ?_ | refine AQCall.mkA _ _ (fun hg => hs) rfl ?_ | refine AGCall.mkA _ _ (fun hg => hs) rfl ?_ | refine ACall.scalA _ _ (hp) rfl ?_ | refine AQCall.mkA _ _ (fun hg => hp) rfl ?_ | refine AGCall.mkA _ _ (fun hg => hp) rfl ?_ | refine ACall.oldA _ _ (toRuleS.own _ ?_) ?_ | refine AGCall.oldA _ _ (fun hg => toRuleS.own _ ?_) ?_ | refine ACall.scalA _ _ (eqRuleS.big _ _ ?_) rfl ?_ | refine AQCall.mkA _ _ (fun hg => eqRuleS.big _ _ ?_) rfl ?_ | refine AGCall.mkA _ _ (fun hg => eqRuleS.big _ _ ?_) rfl ?_)
    | refine AV.bool_congr ?_ | refine AV.int_congr ?_ | refine AV.str_congr ?_ | refine AV.list_congr ?_ | with_reducible rfl | refine fr1 ?_ | refine fr2 ?_ ?_
  all_goals first
    | assumption
    | omega
    | contradiction
    | (rename_i hx; simp at hx; done)
    | (rename_i hx _; simp at hx; done)
end Go.Proofs.YtimcfgokocihnaaGreat
namespace Go.Proofs.YtimcfgokocihnaaGreat
open Abs
set_option maxRecDepth 20000 in
set_option maxHeartbeats 4000000 in
theorem lawExactIsMonotone.of_ret (a0 : VRule) (hb0 : tRule.bd a0)
    (h : tRule.size a0 ≤ 1048576 → ∃ (r0 : Bool), sIsMonotone.Ret [.agg (oldL (tRule.q a0))] (.val (.bool r0)) [] ∧ pIsMonotone.Ret [.agg (oldL (tRule.q a0))] (.val (.bool r0)) []) :
    lawExactIsMonotone.Ret [.agg (oldL (tRule.q a0))] (.val (.bool true)) [] := by
  refine lawExactIsMonotone.ofS rfl rfl ?_
  by_cases c1 : (1048576 : Int) < (tRule.size a0 : Int)
  · have e0 : left 1048576 (tRule.size a0) = -1 := by rw [left, if_pos (by omega)]
    repeat' first
      | contradiction | exact trivial
      | (conv => whnf
         first | refine Need.mk (fun h => h) ?_ | refine Need.mk rfl ?_ | refine Need.mk ⟨rfl, Nat.le_of_ble_eq_true rfl⟩ ?_ | refine Need.mk (Nat.le_of_ble_eq_true rfl) ?_ | refine Need.fin ?_ | refine Need.mk ?_ ?_ | refine Ix.strsF rfl ?_ | refine Ix.strs rfl ?_ ?_ | refine Cut.strs rfl ?_ ?_ | refine Ix.mapF (fun _ => rfl) ?_ | refine Ix.map (fun _ => rfl) ?_ ?_ | refine Cut.map (fun _ => rfl) ?_ ?_ | refine Fork.yes (by assumption) ?_ | refine Fork.no (by assumption) ?_ | refine Fork.decYes (by omega) ?_ | refine Fork.decNo (by omega) ?_ | refine Fork.dec (fun _ => ?_) (fun _ => ?_) | refine Fork.bne (fun _ => ?_) (fun _ => ?_) | refine Fork.beq (fun _ => ?_) (fun _ => ?_) | refine Fork.seq (fun _ => ?_) (fun _ => ?_) | refine Fork.sne (fun _ => ?_) (fun _ => ?_) | refine Fork.neg (fun _ => ?_) (fun _ => ?_) | refine Fork.mk (fun _ => ?_) (fun _ => ?_) | refine HAlt.mk ?_ ?_ | apply HJoin.mk3 | exact HEnd.mk rfl rfl rfl | refine HEnd.mk ?_ ?_ ?_ | refine Round.mk ?_ | refine NilQ.mk (fun b hb => ?_) | refine forceK_of ?_ | refine forceBx_of ?_ | refine unG_old ?_ | refine unG_gv ?_ | refine Lit.read rfl ?_ | refine FinVal.keep ?_ | refine FinAgg.keep ?_ | refine Final.mk rfl rfl | refine Final.mk ?_ rfl | refine Final.mk ?_ ?_ | refine FinalT.mk ?_ ?_ | refine FinalC.allA ?_ | refine ACall.scalA _ _ (szRule.ret _ _ ?_ ?_ ?_) rfl ?_ | refine AQCall.mkA _ _ (fun hg => szRule.ret _ _ ?_ ?_ ?_) rfl ?_ | refine AGCall.mkA _ _ (fun hg => szRule.ret _ _ ?_ ?_ ?_) rfl ?_)
      | refine AV.bool_congr ?_ | refine AV.int_congr ?_ | refine AV.str_congr ?_ | refine AV.list_congr ?_ | with_reducible rfl | refine fr1 ?_ | refine fr2 ?_ ?_
    all_goals first
      | assumption
      | omega
  have e0 : left 1048576 (tRule.size a0) = 1048576 - (tRule.size a0 : Int) := by rw [left, if_neg (by omega)]
  obtain ⟨r0, hs, hp⟩ := h (by omega)
  repeat' first
    | contradiction | exact trivial
    | (conv => whnf
       first | refine Need.mk (fun h => h) ?_ | refine Need.mk rfl ?_ | refine Need.mk ⟨rfl, Nat.le_of_ble_eq_true rfl⟩ ?_ | refine Need.mk (Nat.le_of_ble_eq_true rfl) ?_ | refine Need.fin ?_ | refine Need.mk ?_ ?_ | refine Ix.strsF rfl ?_ | refine Ix.strs rfl ?_ ?_ | refine Cut.strs rfl ?_ ?_ | refine Ix.mapF (fun _ => rfl) ?_ | refine Ix.map (fun _ => rfl) ?_ ?_ | refine Cut.map (fun _ => rfl) ?_ ?_ | refine Fork.yes (by assumption) ?_ | refine Fork.no (by assumption) ?_ | refine Fork.decYes (by omega) ?_ | refine Fork.decNo (by omega) ?_ | refine Fork.dec (fun _ => ?_) (fun _ => ?_) | refine Fork.bne (fun _ => ?_) (fun _ => ?_) | refine Fork.beq (fun _ => ?_) (fun _ => ?_) | refine Fork.seq (fun _ => ?_) (fun _ => ?_) | refine Fork.sne (fun _ => ?_) (fun _ => ?_) | refine Fork.neg (fun _ => ?_) (fun _ => ?_) | refine Fork.mk (fun _ => ?_) (fun _ => ?_) | refine HAlt.mk ?_ ?_ | apply HJoin.mk3 | exact HEnd.mk rfl rfl rfl | refine HEnd.mk ?_ ?_ ?_ | refine Round.mk ?_ | refine NilQ.mk (fun b hb => ?_) | refine forceK_of ?_ | refine forceBx_of ?_ | refine unG_old ?_ | refine unG_gv ?_ | refine Lit.read rfl ?_ | refine FinVal.keep ?_ | refine FinAgg.keep ?_ | refine Final.mk rfl rfl | refine Final.mk ?_ rfl | refine Final.mk ?_ ?_ | refine FinalT.mk ?_ ?_ | refine FinalC.allA ?_ | refine ACall.scalA _ _ (szRule.ret _ _ ?_ ?_ ?_) rfl ?_ | refine AQCall.mkA _ _ (fun hg => szRule.ret _ _ ?_ ?_ ?_) rfl ?_ | refine AGCall.mkA _ _ (fun hg => szRule.ret _ _ ?_ ?_ ?_) rfl ?_ | refine ACall.scalA _ _ (hs) rfl ?_ | refine AQCall.mkA _ _ (fun hg => hs) rfl ?_ | refine AGCall.mkA _ _ (fun hg => hs) rfl ?_ | refine ACall.scalA _ _ (hp) rfl ?_ | refine AQCall.mkA _ _ (fun hg => hp) rfl ?_ | refine AGCall.mkA _ _ (fun hg => hp) rfl ?_ | refine ACall.oldA _ _ (toRule.own _ ?_) ?_ | refine AGCall.oldA _ _ (fun hg => toRule.own _ ?_) ?_ | refine ACall.scalA _ _ (eqRule.big _ _ ?_) rfl ?_ | refine AQCall.mkA _ _ (fun hg => eqRule.big _ _ ?_) rfl ?_ | refine AGCall.mkA _ _ (fun hg => eqRule.big _ _ ?_) rfl ?_)
    | refine AV.bool_congr ?_ | refine AV.int_congr ?_ | refine AV.str_congr ?_ | refine AV.list_congr ?_ | with_reducible rfl | refine fr1 ?_ | refine fr2 ?_ ?_
  all_goals first
    | assumption
    | omega
    | contradiction
    | (rename_i hx; simp at hx; done)
    | (rename_i hx _; simp at hx; done)
end Go.Proofs.YtimcfgokocihnaaGreat
namespace Go.Proofs.YtimcfgokocihnaaGreat
namespace Abs
theorem FinalC.all {Φ : AV → List ABox → Fr → Prop} {r : AV} {b : List ABox} {f : Fr} (h : Lends b b) (hk : Φ r b f) : FinalC Φ r b f := ⟨b, h, hk⟩
theorem FinalC.allA {Φ : AV → List ABox → Fr → Prop} {r : AV} {b : List ABox} {f : Fr} (hk : Φ r b f) (h : Lends b b := by repeat' first | exact Lends.nil | refine Lends.map _ ?_ | refine Lends.lend _ _ (by first | exact hx.1 | exact hy.1 | exact noTk_old _ | (intro c hc; rw [List.mem_singleton.1 hc]; rfl) | (intro c hc; cases hc; done)) ?_) : FinalC Φ r b f := ⟨b, h, hk⟩
section
variable {mo : Bool} {P : Program}
theorem own_post {B : Nat} {w' : World} {F' : Nat → Nat} {tok : List (Option Nat)} {box : List BId} {frs : Fr} {x : Tr} {r : AV} {v : Value} {ts : List Nat} (hrep : Rep B w' F' tok frs box r v) (ho : OwnA frs [x] [r] ts) (hn : ts.Nodup)
    (htin : ∀ (k b : Nat), tok[k]? = some (some b) → B ≤ b ∧ b < w'.heap.size) (htinj : ∀ (k l b : Nat), tok[k]? = some (some b) → tok[l]? = some (some b) → k = l) : ∃ ds, OwnL w' [x] [v] ds ∧ ds.Nodup ∧ ∀ d ∈ ds, B ≤ d ∧ d < w'.heap.size := by
  have hget : ∀ d, d ∈ ts.filterMap (fun k => (tok[k]?).join) → ∃ k ∈ ts, tok[k]? = some (some d) := fun d hd => by
    obtain ⟨k, hk, he⟩ := List.mem_filterMap.1 hd
    cases h : tok[k]? with
    | none => rw [h] at he; cases he
    | some o => rw [h] at he; cases o with
      | none => cases he
      | some b => cases he; exact ⟨k, hk, h⟩
  refine ⟨ts.filterMap fun k => (tok[k]?).join, ho.own (F := F') (box := box) (Both.cons.2 ⟨hrep, rfl, by simp⟩), ?_, fun d hd => ?_⟩
  · clear hrep ho
    induction ts with
    | nil => simp
    | cons k ts ih =>
      obtain ⟨n1, n2⟩ := List.nodup_cons.1 hn
      have hget' : ∀ d, d ∈ ts.filterMap (fun k => (tok[k]?).join) → ∃ k ∈ ts, tok[k]? = some (some d) := fun d hd => by
        obtain ⟨k, hk, he⟩ := List.mem_filterMap.1 hd
        cases h : tok[k]? with
        | none => rw [h] at he; cases he
        | some o => rw [h] at he; cases o with
          | none => cases he
          | some b => cases he; exact ⟨k, hk, h⟩
      rw [List.filterMap_cons]
      split
      · exact ih n2 hget'
      · rename_i b hb'
        refine List.nodup_cons.2 ⟨fun hm => ?_, ih n2 hget'⟩
        obtain ⟨k', hk', he'⟩ := hget' b hm
        have he : tok[k]? = some (some b) := by
          cases h : tok[k]? with
          | none => rw [h] at hb'; cases hb'
          | some o => rw [h] at hb'; cases o with
            | none => cases hb'
            | some b => cases hb'; rfl
        exact n1 (htinj k k' b he he' ▸ hk')
  · obtain ⟨k, _, hk⟩ := hget d hd
    exact htin k d hk
theorem Own.of_irP {fid : Nat} {fn : Func} {code : ACode} {rs : List RRes} {K : List Nat} {args : List AV} {x : Tr} (hf : P.funcs[fid]? = some fn) (hb : fn.body.isSome = true) (hm : (fn.name == "runtime.NumGoroutine") = false)
    (hn : args.length ≤ fn.ntmps) (hc : cCode P fn.ntmps (fn.body.getD .skip) = code) (hrs : fn.results.toList.map (cRes P) = rs)
    (h : aCode (Kn mo P) K 0 code (doneG rs fun r _ f => ∃ ts, OwnA f [x] [r] ts ∧ ts.Nodup) ⟨argEnv 0 args, [], []⟩) : Own mo P fid args x := by
  rw [Kn_eq] at h; rw [Own_eq]
  obtain ⟨c, hc'⟩ := Option.isSome_iff_exists.1 hb
  rw [hc', Option.getD_some] at hc
  rw [← hc, ← hrs] at h
  refine ⟨okFn_of hf hb hm, fun w F vs hout hargs => (calls_of_code hf hc' hn K h w F vs hout hargs).mono ?_⟩
  rintro e w' ⟨v, F', tok, box, r, b, frs, ⟨ts, ho, hnd⟩, rfl, hb, hold, ho', htl, htin, htinj, hrep⟩
  obtain ⟨ds, h1, h2, h3⟩ := own_post hrep ho hnd htin htinj
  exact ⟨v, ds, rfl, hb, h1, h2, h3⟩
end
end Abs
open Abs
theorem strs_flatten (l : List Str) : (strs l).flatten = l.map .str := by
  rw [strs_eq]; induction l with
  | nil => rfl
  | cons s l ih => rw [List.map_cons, List.flatten_cons, ih]; rfl
theorem noTk_texts {l : List Str} : ∀ c ∈ l.map AV.str, noTk c = true := fun c hc => by obtain ⟨s, _, rfl⟩ := List.mem_map.1 hc; rfl
theorem str_le {l : List Str} {i : Nat} (hi : i < l.length) : (l.getD i []).length ≤ listSize Ty.str l :=
  listSize_mem Ty.str (List.mem_of_getElem? (by simp [List.getD, hi] : l[i]? = some (l.getD i [])))
end Go.Proofs.YtimcfgokocihnaaGreat
namespace Go.Proofs.YtimcfgokocihnaaGreat
open Abs
def l1In.code : ACode := (.seq (.region false [s 6 (.mv (.const (.bool false)))]) (.seq (.region false [s 7 (.mv (t 0)), s 8 (.mv (t 1)), s 9 (.bin .geq (t 7) (t 8)), s 10 (.mv (t 9)), g 10 true 11 (.mv (t 0)), g 10 true 12 (.mv (t 2)), g 10 true 13 (.bin .leq (t 11) (t 12)), s 14 (.and (t 10) (t 13)), s 6 (.mv (t 14))]) .ret))
def l1In.keep : List Nat := [0, 1, 2, 6]
def l1In.res : List RRes := [.tmp 6]
theorem l1In.of {mo : Bool} {args : List AV} {r : AV} {frs : Fr} (hn : Nat.ble args.length Tryz.f21.ntmps = true) (h : aCode (Kn mo Tryz.prog) l1In.keep 0 l1In.code (doneK l1In.res r frs) ⟨argEnv 0 args, [], []⟩) : Abs.Ret mo Tryz.prog 21 args r frs :=
  Abs.Ret.of_ir Tryz.func21 rfl (by kernel_rfl) (Nat.le_of_ble_eq_true hn) (by kernel_rfl) (by kernel_rfl) h
abbrev l1In.Ret (args : List AV) (r : AV) (frs : Fr) : Prop := Abs.Ret true Tryz.prog 21 args r frs
def isDigit.code : ACode := (.seq (.region false [s 2 (.mv (.const (.bool false)))]) (.seq (.region false [s 3 (.mv (t 0)), s 4 (.bin .leq (.const (.int .i32 48)) (t 3)), s 5 (.mv (t 4)), g 5 true 6 (.mv (t 0)), g 5 true 7 (.bin .leq (t 6) (.const (.int .i32 57))), s 8 (.and (t 5) (t 7)), s 2 (.mv (t 8))]) .ret))
def isDigit.keep : List Nat := [0, 2]
def isDigit.res : List RRes := [.tmp 2]
theorem isDigit.of {mo : Bool} {args : List AV} {r : AV} {frs : Fr} (hn : Nat.ble args.length Tryz.f72.ntmps = true) (h : aCode (Kn mo Tryz.prog) isDigit.keep 0 isDigit.code (doneK isDigit.res r frs) ⟨argEnv 0 args, [], []⟩) : Abs.Ret mo Tryz.prog 72 args r frs :=
  Abs.Ret.of_ir Tryz.func72 rfl (by kernel_rfl) (Nat.le_of_ble_eq_true hn) (by kernel_rfl) (by kernel_rfl) h
abbrev isDigit.Ret (args : List AV) (r : AV) (frs : Fr) : Prop := Abs.Ret true Tryz.prog 72 args r frs
def isLetter.code : ACode := (.seq (.region false [s 2 (.mv (.const (.bool false)))]) (.seq (.region false [s 3 (.mv (t 0)), s 4 (.bin .leq (.const (.int .i32 97)) (t 3)), s 5 (.mv (t 4)), g 5 true 6 (.mv (t 0)), g 5 true 7 (.bin .leq (t 6) (.const (.int .i32 122))), s 8 (.and (t 5) (t 7)), s 2 (.mv (t 8))]) .ret))
def isLetter.keep : List Nat := [0, 2]
def isLetter.res : List RRes := [.tmp 2]
theorem isLetter.of {mo : Bool} {args : List AV} {r : AV} {frs : Fr} (hn : Nat.ble args.length Tryz.f56.ntmps = true) (h : aCode (Kn mo Tryz.prog) isLetter.keep 0 isLetter.code (doneK isLetter.res r frs) ⟨argEnv 0 args, [], []⟩) : Abs.Ret mo Tryz.prog 56 args r frs :=
  Abs.Ret.of_ir Tryz.func56 rfl (by kernel_rfl) (Nat.le_of_ble_eq_true hn) (by kernel_rfl) (by kernel_rfl) h
abbrev isLetter.Ret (args : List AV) (r : AV) (frs : Fr) : Prop := Abs.Ret true Tryz.prog 56 args r frs
def sIsAtom.code : ACode := (.seq (.region false [s 2 (.mv (.const (.bool false)))]) (.seq (.seq (.region false [s 3 (.mv (.const (.int .i64 0)))]) (.block 0 (.loop (.seq (.seq (.region false [s 4 (.mv (t 3)), s 5 (.mv (t 0)), s 6 (.len true (t 5)), s 7 (.bin .lss (t 4) (t 6))]) (.cond (t 7) .skip (.exit 0))) (.seq (.block 1 (.seq (.region false [s 10 (.mv (t 0)), s 11 (.mv (t 3)), s 12 (.index (t 10) (t 11)), s 13 (.conv .i64 (t 12)), s 14 (.call 21 [(t 13), (.const (.int .i64 97)), (.const (.int .i64 122))]), s 15 (.not (t 14)), s 16 (.mv (t 15)), g 16 true 17 (.mv (t 0)), g 16 true 18 (.mv (t 3)), g 16 true 19 (.index (t 17) (t 18)), g 16 true 20 (.conv .i64 (t 19)), g 16 true 21 (.call 21 [(t 20), (.const (.int .i64 48)), (.const (.int .i64 57))]), g 16 true 22 (.not (t 21)), s 23 (.and (t 16) (t 22))]) (.cond (t 23) (.seq (.region false [s 2 (.mv (.const (.bool false)))]) .ret) .skip))) (.region false [s 8 (.mv (t 3)), s 9 (.bin .add (t 8) (.const (.int .i64 1))), s 3 (.mv (t 9))])))))) (.seq (.region false [s 24 (.mv (t 0)), s 25 (.len true (t 24)), s 26 (.call 21 [(t 25), (.const (.int .i64 1)), (.const (.int .i64 8))]), s 2 (.mv (t 26))]) .ret)))
def sIsAtom.keep : List Nat := [0, 2, 3]
def sIsAtom.res : List RRes := [.tmp 2]
theorem sIsAtom.of {mo : Bool} {args : List AV} {r : AV} {frs : Fr} (hn : Nat.ble args.length Tryz.f48.ntmps = true) (h : aCode (Kn mo Tryz.prog) sIsAtom.keep 0 sIsAtom.code (doneK sIsAtom.res r frs) ⟨argEnv 0 args, [], []⟩) : Abs.Ret mo Tryz.prog 48 args r frs :=
  Abs.Ret.of_ir Tryz.func48 rfl (by kernel_rfl) (Nat.le_of_ble_eq_true hn) (by kernel_rfl) (by kernel_rfl) h
abbrev sIsAtom.Ret (args : List AV) (r : AV) (frs : Fr) : Prop := Abs.Ret true Tryz.prog 48 args r frs
def pIsAtom.code : ACode := (.seq (.region false [s 2 (.mv (.const (.bool false)))]) (.seq (.seq (.region false [s 5 (.mv (t 0)), s 6 (.bin .eql (t 5) (.const (.string (.mk #[])))), s 7 (.mv (t 6)), g 7 false 8 (.mv (t 0)), g 7 false 9 (.len true (t 8)), g 7 false 10 (.bin .gtr (t 9) (.const (.int .i64 8))), s 11 (.or (t 7) (t 10))]) (.cond (t 11) (.seq (.region false [s 2 (.mv (.const (.bool false)))]) .ret) .skip)) (.seq (.seq (.region false [s 12 (.mv (t 0)), s 13 (.range (t 12))]) (.block 0 (.loop (.seq (.region false [s 14 (.next (t 13)), s 15 (.extract (t 14) 0)]) (.seq (.cond (t 15) .skip (.exit 0)) (.block 1 (.seq (.region false [s 16 (.extract (t 14) 2), s 4 (.mv (t 16))]) (.seq (.region false [s 17 (.mv (t 4)), s 18 (.call 56 [(t 17)]), s 19 (.not (t 18)), s 20 (.mv (t 19)), g 20 true 21 (.mv (t 4)), g 20 true 22 (.call 72 [(t 21)]), g 20 true 23 (.not (t 22)), s 24 (.and (t 20) (t 23))]) (.cond (t 24) (.seq (.region false [s 2 (.mv (.const (.bool false)))]) .ret) .skip))))))))) (.seq (.region false [s 2 (.mv (.const (.bool true)))]) .ret))))
def pIsAtom.keep : List Nat := [0, 2, 4, 13, 14, 15]
def pIsAtom.res : List RRes := [.tmp 2]
theorem pIsAtom.of {mo : Bool} {args : List AV} {r : AV} {frs : Fr} (hn : Nat.ble args.length Tryz.f55.ntmps = true) (h : aCode (Kn mo Tryz.prog) pIsAtom.keep 0 pIsAtom.code (doneK pIsAtom.res r frs) ⟨argEnv 0 args, [], []⟩) : Abs.Ret mo Tryz.prog 55 args r frs :=
  Abs.Ret.of_ir Tryz.func55 rfl (by kernel_rfl) (Nat.le_of_ble_eq_true hn) (by kernel_rfl) (by kernel_rfl) h
abbrev pIsAtom.Ret (args : List AV) (r : AV) (frs : Fr) : Prop := Abs.Ret true Tryz.prog 55 args r frs
def sIsName.code : ACode := (.seq (.region false [s 2 (.mv (.const (.bool false)))]) (.seq (.region false [s 3 (.mv (t 0)), s 4 (.call 48 [(t 3)]), s 5 (.mv (t 4)), g 5 true 6 (.mv (t 0)), g 5 true 7 (.index (t 6) (.const (.int .i64 0))), g 5 true 8 (.conv .i64 (t 7)), g 5 true 9 (.call 21 [(t 8), (.const (.int .i64 97)), (.const (.int .i64 122))]), s 10 (.and (t 5) (t 9)), s 2 (.mv (t 10))]) .ret))
def sIsName.keep : List Nat := [0, 2]
def sIsName.res : List RRes := [.tmp 2]
theorem sIsName.of {mo : Bool} {args : List AV} {r : AV} {frs : Fr} (hn : Nat.ble args.length Tryz.f20.ntmps = true) (h : aCode (Kn mo Tryz.prog) sIsName.keep 0 sIsName.code (doneK sIsName.res r frs) ⟨argEnv 0 args, [], []⟩) : Abs.Ret mo Tryz.prog 20 args r frs :=
  Abs.Ret.of_ir Tryz.func20 rfl (by kernel_rfl) (Nat.le_of_ble_eq_true hn) (by kernel_rfl) (by kernel_rfl) h
abbrev sIsName.Ret (args : List AV) (r : AV) (frs : Fr) : Prop := Abs.Ret true Tryz.prog 20 args r frs
def pIsName.code : ACode := (.seq (.region false [s 2 (.mv (.const (.bool false)))]) (.seq (.region false [s 3 (.mv (t 0)), s 4 (.call 55 [(t 3)]), s 5 (.mv (t 4)), g 5 true 6 (.mv (t 0)), g 5 true 7 (.index (t 6) (.const (.int .i64 0))), g 5 true 8 (.conv .i32 (t 7)), g 5 true 9 (.call 56 [(t 8)]), s 10 (.and (t 5) (t 9)), s 2 (.mv (t 10))]) .ret))
def pIsName.keep : List Nat := [0, 2]
def pIsName.res : List RRes := [.tmp 2]
theorem pIsName.of {mo : Bool} {args : List AV} {r : AV} {frs : Fr} (hn : Nat.ble args.length Tryz.f33.ntmps = true) (h : aCode (Kn mo Tryz.prog) pIsName.keep 0 pIsName.code (doneK pIsName.res r frs) ⟨argEnv 0 args, [], []⟩) : Abs.Ret mo Tryz.prog 33 args r frs :=
  Abs.Ret.of_ir Tryz.func33 rfl (by kernel_rfl) (Nat.le_of_ble_eq_true hn) (by kernel_rfl) (by kernel_rfl) h
abbrev pIsName.Ret (args : List AV) (r : AV) (frs : Fr) : Prop := Abs.Ret true Tryz.prog 33 args r frs
def sIsVar.code : ACode := (.seq (.region false [s 2 (.mv (.const (.bool false)))]) (.seq (.region false [s 3 (.mv (t 0)), s 4 (.len true (t 3)), s 5 (.bin .gtr (t 4) (.const (.int .i64 1))), s 6 (.mv (t 5)), g 6 true 7 (.mv (t 0)), g 6 true 8 (.index (t 7) (.const (.int .i64 0))), g 6 true 9 (.bin .eql (t 8) (.const (.int .u8 63))), s 10 (.and (t 6) (t 9)), s 11 (.mv (t 10)), g 11 true 12 (.mv (t 0)), g 11 true 13 (.slice true 0 (t 12) (some (.const (.int .i64 1))) none), g 11 true 14 (.call 48 [(t 13)]), s 15 (.and (t 11) (t 14)), s 2 (.mv (t 15))]) .ret))
def sIsVar.keep : List Nat := [0, 2]
def sIsVar.res : List RRes := [.tmp 2]
theorem sIsVar.of {mo : Bool} {args : List AV} {r : AV} {frs : Fr} (hn : Nat.ble args.length Tryz.f52.ntmps = true) (h : aCode (Kn mo Tryz.prog) sIsVar.keep 0 sIsVar.code (doneK sIsVar.res r frs) ⟨argEnv 0 args, [], []⟩) : Abs.Ret mo Tryz.prog 52 args r frs :=
  Abs.Ret.of_ir Tryz.func52 rfl (by kernel_rfl) (Nat.le_of_ble_eq_true hn) (by kernel_rfl) (by kernel_rfl) h
abbrev sIsVar.Ret (args : List AV) (r : AV) (frs : Fr) : Prop := Abs.Ret true Tryz.prog 52 args r frs
def pIsVar.code : ACode := (.seq (.region false [s 2 (.mv (.const (.bool false)))]) (.seq (.region false [s 6 (.mv (t 0)), s 7 (.call 102 [(t 6), (.const (.string (.mk #[63])))]), s 5 (.mv (t 7)), s 8 (.extract (t 5) 0), s 9 (.extract (t 5) 1), s 3 (.mv (t 8)), s 4 (.mv (t 9))]) (.seq (.region false [s 10 (.mv (t 4)), s 11 (.mv (t 10)), g 11 true 12 (.mv (t 3)), g 11 true 13 (.call 55 [(t 12)]), s 14 (.and (t 11) (t 13)), s 2 (.mv (t 14))]) .ret)))
def pIsVar.keep : List Nat := [0, 2, 3, 4]
def pIsVar.res : List RRes := [.tmp 2]
theorem pIsVar.of {mo : Bool} {args : List AV} {r : AV} {frs : Fr} (hn : Nat.ble args.length Tryz.f96.ntmps = true) (h : aCode (Kn mo Tryz.prog) pIsVar.keep 0 pIsVar.code (doneK pIsVar.res r frs) ⟨argEnv 0 args, [], []⟩) : Abs.Ret mo Tryz.prog 96 args r frs :=
  Abs.Ret.of_ir Tryz.func96 rfl (by kernel_rfl) (Nat.le_of_ble_eq_true hn) (by kernel_rfl) (by kernel_rfl) h
abbrev pIsVar.Ret (args : List AV) (r : AV) (frs : Fr) : Prop := Abs.Ret true Tryz.prog 96 args r frs
def sIsTerm.code : ACode := (.seq (.region false [s 2 (.mv (.const (.bool false)))]) (.seq (.region false [s 3 (.mv (t 0)), s 4 (.call 48 [(t 3)]), s 5 (.mv (t 4)), g 5 false 6 (.mv (t 0)), g 5 false 7 (.call 52 [(t 6)]), s 8 (.or (t 5) (t 7)), s 2 (.mv (t 8))]) .ret))
def sIsTerm.keep : List Nat := [0, 2]
def sIsTerm.res : List RRes := [.tmp 2]
theorem sIsTerm.of {mo : Bool} {args : List AV} {r : AV} {frs : Fr} (hn : Nat.ble args.length Tryz.f51.ntmps = true) (h : aCode (Kn mo Tryz.prog) sIsTerm.keep 0 sIsTerm.code (doneK sIsTerm.res r frs) ⟨argEnv 0 args, [], []⟩) : Abs.Ret mo Tryz.prog 51 args r frs :=
  Abs.Ret.of_ir Tryz.func51 rfl (by kernel_rfl) (Nat.le_of_ble_eq_true hn) (by kernel_rfl) (by kernel_rfl) h
abbrev sIsTerm.Ret (args : List AV) (r : AV) (frs : Fr) : Prop := Abs.Ret true Tryz.prog 51 args r frs
def pIsTerm.code : ACode := (.seq (.region false [s 2 (.mv (.const (.bool false)))]) (.seq (.region false [s 3 (.mv (t 0)), s 4 (.call 55 [(t 3)]), s 5 (.mv (t 4)), g 5 false 6 (.mv (t 0)), g 5 false 7 (.call 96 [(t 6)]), s 8 (.or (t 5) (t 7)), s 2 (.mv (t 8))]) .ret))
def pIsTerm.keep : List Nat := [0, 2]
def pIsTerm.res : List RRes := [.tmp 2]
theorem pIsTerm.of {mo : Bool} {args : List AV} {r : AV} {frs : Fr} (hn : Nat.ble args.length Tryz.f91.ntmps = true) (h : aCode (Kn mo Tryz.prog) pIsTerm.keep 0 pIsTerm.code (doneK pIsTerm.res r frs) ⟨argEnv 0 args, [], []⟩) : Abs.Ret mo Tryz.prog 91 args r frs :=
  Abs.Ret.of_ir Tryz.func91 rfl (by kernel_rfl) (Nat.le_of_ble_eq_true hn) (by kernel_rfl) (by kernel_rfl) h
abbrev pIsTerm.Ret (args : List AV) (r : AV) (frs : Fr) : Prop := Abs.Ret true Tryz.prog 91 args r frs
def cutPrefix.code : ACode := (.seq (.region false [s 4 (.mv (.const (.string (.mk #[])))), s 5 (.mv (.const (.bool false)))]) (.seq (.region false [s 6 (.mv (t 0)), s 7 (.mv (t 1)), s 8 (.call 117 [(t 6), (t 7)]), s 9 (.extract (t 8) 0), s 10 (.extract (t 8) 1), s 4 (.mv (t 9)), s 5 (.mv (t 10))]) .ret))
def cutPrefix.keep : List Nat := [0, 1, 4, 5]
def cutPrefix.res : List RRes := [.tmp 4, .tmp 5]
theorem cutPrefix.of {mo : Bool} {args : List AV} {r : AV} {frs : Fr} (hn : Nat.ble args.length Tryz.f102.ntmps = true) (h : aCode (Kn mo Tryz.prog) cutPrefix.keep 0 cutPrefix.code (doneK cutPrefix.res r frs) ⟨argEnv 0 args, [], []⟩) : Abs.Ret mo Tryz.prog 102 args r frs :=
  Abs.Ret.of_ir Tryz.func102 rfl (by kernel_rfl) (Nat.le_of_ble_eq_true hn) (by kernel_rfl) (by kernel_rfl) h
abbrev cutPrefix.Ret (args : List AV) (r : AV) (frs : Fr) : Prop := Abs.Ret true Tryz.prog 102 args r frs
def slCutPrefix.code : ACode := (.seq (.region false [s 4 (.mv (.const (.string (.mk #[])))), s 5 (.mv (.const (.bool false)))]) (.seq (.seq (.region false [s 6 (.mv (t 0)), s 7 (.mv (t 1)), s 8 (.call 125 [(t 6), (t 7)]), s 9 (.not (t 8))]) (.cond (t 9) (.seq (.region false [s 10 (.mv (t 0)), s 4 (.mv (t 10)), s 5 (.mv (.const (.bool false)))]) .ret) .skip)) (.seq (.region false [s 11 (.mv (t 0)), s 12 (.mv (t 1)), s 13 (.len true (t 12)), s 14 (.slice true 0 (t 11) (some (t 13)) none), s 4 (.mv (t 14)), s 5 (.mv (.const (.bool true)))]) .ret)))
def slCutPrefix.keep : List Nat := [0, 1, 4, 5]
def slCutPrefix.res : List RRes := [.tmp 4, .tmp 5]
theorem slCutPrefix.of {mo : Bool} {args : List AV} {r : AV} {frs : Fr} (hn : Nat.ble args.length Tryz.f117.ntmps = true) (h : aCode (Kn mo Tryz.prog) slCutPrefix.keep 0 slCutPrefix.code (doneK slCutPrefix.res r frs) ⟨argEnv 0 args, [], []⟩) : Abs.Ret mo Tryz.prog 117 args r frs :=
  Abs.Ret.of_ir Tryz.func117 rfl (by kernel_rfl) (Nat.le_of_ble_eq_true hn) (by kernel_rfl) (by kernel_rfl) h
abbrev slCutPrefix.Ret (args : List AV) (r : AV) (frs : Fr) : Prop := Abs.Ret true Tryz.prog 117 args r frs
def slHasPrefix.code : ACode := (.seq (.region false [s 4 (.mv (.const (.bool false)))]) (.seq (.region false [s 5 (.mv (t 0)), s 6 (.len true (t 5)), s 7 (.mv (t 1)), s 8 (.len true (t 7)), s 9 (.bin .geq (t 6) (t 8)), s 10 (.mv (t 9)), g 10 true 11 (.mv (t 0)), g 10 true 12 (.mv (t 1)), g 10 true 13 (.len true (t 12)), g 10 true 14 (.slice true 0 (t 11) none (some (t 13))), g 10 true 15 (.mv (t 1)), g 10 true 16 (.bin .eql (t 14) (t 15)), s 17 (.and (t 10) (t 16)), s 4 (.mv (t 17))]) .ret))
def slHasPrefix.keep : List Nat := [0, 1, 4]
def slHasPrefix.res : List RRes := [.tmp 4]
theorem slHasPrefix.of {mo : Bool} {args : List AV} {r : AV} {frs : Fr} (hn : Nat.ble args.length Tryz.f125.ntmps = true) (h : aCode (Kn mo Tryz.prog) slHasPrefix.keep 0 slHasPrefix.code (doneK slHasPrefix.res r frs) ⟨argEnv 0 args, [], []⟩) : Abs.Ret mo Tryz.prog 125 args r frs :=
  Abs.Ret.of_ir Tryz.func125 rfl (by kernel_rfl) (Nat.le_of_ble_eq_true hn) (by kernel_rfl) (by kernel_rfl) h
abbrev slHasPrefix.Ret (args : List AV) (r : AV) (frs : Fr) : Prop := Abs.Ret true Tryz.prog 125 args r frs
def sPut.code : ACode := (.seq (.region false [s 4 (.mv (.const (.slice none 0 0)))]) (.seq (.region false [s 8 (.bslice 9 1 true []), s 5 (.mv (t 8))]) (.seq (.region false [s 6 (.mv (.const (.bool false)))]) (.seq (.seq (.region false [s 7 (.mv (.const (.int .i64 0)))]) (.block 0 (.loop (.seq (.seq (.region false [s 9 (.mv (t 7)), s 10 (.mv (t 0)), s 11 (.len false (t 10)), s 12 (.bin .lss (t 9) (t 11))]) (.cond (t 12) .skip (.exit 0))) (.seq (.block 1 (.seq (.seq (.region false [s 15 (.mv (t 6)), s 16 (.not (t 15)), s 17 (.mv (t 16)), g 17 true 18 (.mv (t 0)), g 17 true 19 (.mv (t 7)), g 17 true 20 (.iadr 1 (t 18) (t 19)), g 17 true 21 (.load false 1 (t 20)), g 17 true 22 (.mv (t 1)), g 17 true 23 (.bin .geq (t 21) (t 22)), s 24 (.and (t 17) (t 23))]) (.cond (t 24) (.seq (.region false [s 6 (.mv (.const (.bool true)))]) (.seq (.region false [s 25 (.mv (t 0)), s 26 (.mv (t 7)), s 27 (.iadr 1 (t 25) (t 26)), s 28 (.load false 1 (t 27)), s 29 (.mv (t 1)), s 30 (.bin .neq (t 28) (t 29))]) (.cond (t 30) (.region false [s 31 (.mv (t 5)), s 32 (.mv (t 1)), s 33 (.bslice 9 1 false [(t 32)]), s 34 (.append 9 1 16 (t 31) (t 33)), s 5 (.mv (t 34))]) .skip))) .skip)) (.region false [s 35 (.mv (t 5)), s 36 (.mv (t 0)), s 37 (.mv (t 7)), s 38 (.iadr 1 (t 36) (t 37)), s 39 (.load false 1 (t 38)), s 40 (.bslice 9 1 false [(t 39)]), s 41 (.append 9 1 16 (t 35) (t 40)), s 5 (.mv (t 41))]))) (.region false [s 13 (.mv (t 7)), s 14 (.bin .add (t 13) (.const (.int .i64 1))), s 7 (.mv (t 14))])))))) (.seq (.seq (.region false [s 42 (.mv (t 6)), s 43 (.not (t 42))]) (.cond (t 43) (.region false [s 44 (.mv (t 5)), s 45 (.mv (t 1)), s 46 (.bslice 9 1 false [(t 45)]), s 47 (.append 9 1 16 (t 44) (t 46)), s 5 (.mv (t 47))]) .skip)) (.seq (.region false [s 48 (.mv (t 5)), s 4 (.mv (t 48))]) .ret))))))
def sPut.keep : List Nat := [0, 1, 4, 5, 6, 7]
def sPut.res : List RRes := [.tmp 4]
theorem sPut.of {mo : Bool} {args : List AV} {r : AV} {frs : Fr} (hn : Nat.ble args.length Tryz.f49.ntmps = true) (h : aCode (Kn mo Tryz.prog) sPut.keep 0 sPut.code (doneK sPut.res r frs) ⟨argEnv 0 args, [], []⟩) : Abs.Ret mo Tryz.prog 49 args r frs :=
  Abs.Ret.of_ir Tryz.func49 rfl (by kernel_rfl) (Nat.le_of_ble_eq_true hn) (by kernel_rfl) (by kernel_rfl) h
abbrev sPut.Ret (args : List AV) (r : AV) (frs : Fr) : Prop := Abs.Ret true Tryz.prog 49 args r frs
def pSortedTexts.code : ACode := (.seq (.region false [s 2 (.mv (.const (.slice none 0 0)))]) (.seq (.region false [s 4 (.mv (t 0)), s 5 (.call 84 [(t 4)]), s 3 (.mv (t 5))]) (.seq (.region false [s 6 (.mv (t 3)), s 7 (.call 85 [(t 6)])]) (.seq (.region false [s 8 (.mv (t 3)), s 9 (.call 86 [(t 8)]), s 2 (.mv (t 9))]) .ret))))
def pSortedTexts.keep : List Nat := [0, 2, 3]
def pSortedTexts.res : List RRes := [.tmp 2]
theorem pSortedTexts.of {mo : Bool} {args : List AV} {r : AV} {frs : Fr} (hn : Nat.ble args.length Tryz.f65.ntmps = true) (h : aCode (Kn mo Tryz.prog) pSortedTexts.keep 0 pSortedTexts.code (doneK pSortedTexts.res r frs) ⟨argEnv 0 args, [], []⟩) : Abs.Ret mo Tryz.prog 65 args r frs :=
  Abs.Ret.of_ir Tryz.func65 rfl (by kernel_rfl) (Nat.le_of_ble_eq_true hn) (by kernel_rfl) (by kernel_rfl) h
abbrev pSortedTexts.Ret (args : List AV) (r : AV) (frs : Fr) : Prop := Abs.Ret true Tryz.prog 65 args r frs
def slClone.code : ACode := (.seq (.region false [s 2 (.mv (.const (.slice none 0 0)))]) (.seq (.seq (.region false [s 3 (.mv (t 0)), s 4 (.nilq false (t 3))]) (.cond (t 4) (.seq (.region false [s 2 (.mv (.const (.slice none 0 0)))]) .ret) .skip)) (.seq (.region false [s 5 (.bslice 9 1 true []), s 6 (.mv (t 0)), s 7 (.append 9 1 16 (t 5) (t 6)), s 2 (.mv (t 7))]) .ret)))
def slClone.keep : List Nat := [0, 2]
def slClone.res : List RRes := [.tmp 2]
theorem slClone.of {mo : Bool} {args : List AV} {r : AV} {frs : Fr} (hn : Nat.ble args.length Tryz.f84.ntmps = true) (h : aCode (Kn mo Tryz.prog) slClone.keep 0 slClone.code (doneK slClone.res r frs) ⟨argEnv 0 args, [], []⟩) : Abs.Ret mo Tryz.prog 84 args r frs :=
  Abs.Ret.of_ir Tryz.func84 rfl (by kernel_rfl) (Nat.le_of_ble_eq_true hn) (by kernel_rfl) (by kernel_rfl) h
abbrev slClone.Own (args : List AV) (x : Tr) : Prop := Abs.Own true Tryz.prog 84 args x
abbrev slClone.Ret (args : List AV) (r : AV) (frs : Fr) : Prop := Abs.Ret true Tryz.prog 84 args r frs
abbrev slSort.Ctx (b0 : List ABox) (args : List AV) (Φ : AV → List ABox → Prop) : Prop := Abs.Ctx true Tryz.prog 85 b0 args Φ
abbrev slCompact.Ctx (b0 : List ABox) (args : List AV) (Φ : AV → List ABox → Prop) : Prop := Abs.Ctx true Tryz.prog 86 b0 args Φ
def slEqual.code : ACode := (.seq (.region false [s 4 (.mv (.const (.bool false)))]) (.seq (.seq (.region false [s 6 (.mv (t 0)), s 7 (.len false (t 6)), s 8 (.mv (t 1)), s 9 (.len false (t 8)), s 10 (.bin .neq (t 7) (t 9))]) (.cond (t 10) (.seq (.region false [s 4 (.mv (.const (.bool false)))]) .ret) .skip)) (.seq (.seq (.region false [s 11 (.mv (t 0)), s 12 (.len false (t 11)), s 13 (.mv (.const (.int .i64 0)))]) (.block 0 (.loop (.seq (.region false [s 14 (.bin .lss (t 13) (t 12))]) (.seq (.cond (t 14) .skip (.exit 0)) (.seq (.block 1 (.seq (.region false [s 15 (.mv (t 13)), s 5 (.mv (t 15))]) (.seq (.region true [s 16 (.mv (t 0)), s 17 (.mv (t 5)), s 18 (.iadr 1 (t 16) (t 17)), s 19 (.load false 1 (t 18)), s 20 (.mv (t 1)), s 21 (.mv (t 5)), s 22 (.iadr 1 (t 20) (t 21)), s 23 (.load false 1 (t 22)), s 24 (.bin .neq (t 19) (t 23))]) (.cond (t 24) (.seq (.region false [s 4 (.mv (.const (.bool false)))]) .ret) .skip)))) (.region false [s 25 (.bin .add (t 13) (.const (.int .i64 1))), s 13 (.mv (t 25))]))))))) (.seq (.region false [s 4 (.mv (.const (.bool true)))]) .ret))))
def slEqual.keep : List Nat := [0, 1, 4, 5, 12, 13, 14]
def slEqual.res : List RRes := [.tmp 4]
theorem slEqual.of {mo : Bool} {args : List AV} {r : AV} {frs : Fr} (hn : Nat.ble args.length Tryz.f93.ntmps = true) (h : aCode (Kn mo Tryz.prog) slEqual.keep 0 slEqual.code (doneK slEqual.res r frs) ⟨argEnv 0 args, [], []⟩) : Abs.Ret mo Tryz.prog 93 args r frs :=
  Abs.Ret.of_ir Tryz.func93 rfl (by kernel_rfl) (Nat.le_of_ble_eq_true hn) (by kernel_rfl) (by kernel_rfl) h
abbrev slEqual.Ret (args : List AV) (r : AV) (frs : Fr) : Prop := Abs.Ret true Tryz.prog 93 args r frs
end Go.Proofs.YtimcfgokocihnaaGreat
namespace Go.Proofs.YtimcfgokocihnaaGreat
open Abs
theorem l1In.ret (x a b : Int) : l1In.Ret [.val (.int .i64 x), .val (.int .i64 a), .val (.int .i64 b)] (.val (.bool (decide (a ≤ x) && decide (x ≤ b)))) [] := by
  refine l1In.of rfl ?_
  repeat' first
    | contradiction | exact trivial
    | (conv => whnf
       first | refine Need.mk (fun h => h) ?_ | refine Need.mk rfl ?_ | refine Need.mk ⟨rfl, Nat.le_of_ble_eq_true rfl⟩ ?_ | refine Need.mk (Nat.le_of_ble_eq_true rfl) ?_ | refine Need.fin ?_ | refine Need.mk ?_ ?_ | refine Ix.strsF rfl ?_ | refine Ix.strs rfl ?_ ?_ | refine Cut.strs rfl ?_ ?_ | refine Ix.mapF (fun _ => rfl) ?_ | refine Ix.map (fun _ => rfl) ?_ ?_ | refine Cut.map (fun _ => rfl) ?_ ?_ | refine Fork.yes (by assumption) ?_ | refine Fork.no (by assumption) ?_ | refine Fork.decYes (by omega) ?_ | refine Fork.decNo (by omega) ?_ | refine Fork.dec (fun _ => ?_) (fun _ => ?_) | refine Fork.bne (fun _ => ?_) (fun _ => ?_) | refine Fork.beq (fun _ => ?_) (fun _ => ?_) | refine Fork.seq (fun _ => ?_) (fun _ => ?_) | refine Fork.sne (fun _ => ?_) (fun _ => ?_) | refine Fork.neg (fun _ => ?_) (fun _ => ?_) | refine Fork.mk (fun _ => ?_) (fun _ => ?_) | refine HAlt.mk ?_ ?_ | apply HJoin.mk3 | exact HEnd.mk rfl rfl rfl | refine HEnd.mk ?_ ?_ ?_ | refine Round.mk ?_ | refine NilQ.mk (fun b hb => ?_) | refine forceK_of ?_ | refine forceBx_of ?_ | refine unG_old ?_ | refine unG_gv ?_ | refine Lit.read rfl ?_ | refine FinVal.keep ?_ | refine FinAgg.keep ?_ | refine Final.mk rfl rfl | refine Final.mk ?_ rfl | refine Final.mk ?_ ?_ | refine FinalT.mk ?_ ?_ | refine FinalC.allA ?_)
    | refine AV.bool_congr ?_ | refine AV.int_congr ?_ | refine AV.str_congr ?_ | refine AV.list_congr ?_ | with_reducible rfl | refine fr1 ?_ | refine fr2 ?_ ?_
def letter (c : Int) : Bool := decide (97 ≤ c) && decide (c ≤ 122)
def digit (c : Int) : Bool := decide (48 ≤ c) && decide (c ≤ 57)
theorem isLetter.ret (x : Int) : isLetter.Ret [.val (.int .i32 x)] (.val (.bool (letter x))) [] := by
  refine isLetter.of rfl ?_; unfold letter
  repeat' first
    | contradiction | exact trivial
    | (conv => whnf
       first | refine Need.mk (fun h => h) ?_ | refine Need.mk rfl ?_ | refine Need.mk ⟨rfl, Nat.le_of_ble_eq_true rfl⟩ ?_ | refine Need.mk (Nat.le_of_ble_eq_true rfl) ?_ | refine Need.fin ?_ | refine Need.mk ?_ ?_ | refine Ix.strsF rfl ?_ | refine Ix.strs rfl ?_ ?_ | refine Cut.strs rfl ?_ ?_ | refine Ix.mapF (fun _ => rfl) ?_ | refine Ix.map (fun _ => rfl) ?_ ?_ | refine Cut.map (fun _ => rfl) ?_ ?_ | refine Fork.yes (by assumption) ?_ | refine Fork.no (by assumption) ?_ | refine Fork.decYes (by omega) ?_ | refine Fork.decNo (by omega) ?_ | refine Fork.dec (fun _ => ?_) (fun _ => ?_) | refine Fork.bne (fun _ => ?_) (fun _ => ?_) | refine Fork.beq (fun _ => ?_) (fun _ => ?_) | refine Fork.seq (fun _ => ?_) (fun _ => ?_) | refine Fork.sne (fun _ => ?_) (fun _ => ?_) | refine Fork.neg (fun _ => ?_) (fun _ => ?_) | refine Fork.mk (fun _ => ?_) (fun _ => ?_) | refine HAlt.mk ?_ ?_ | apply HJoin.mk3 | exact HEnd.mk rfl rfl rfl | refine HEnd.mk ?_ ?_ ?_ | refine Round.mk ?_ | refine NilQ.mk (fun b hb => ?_) | refine forceK_of ?_ | refine forceBx_of ?_ | refine unG_old ?_ | refine unG_gv ?_ | refine Lit.read rfl ?_ | refine FinVal.keep ?_ | refine FinAgg.keep ?_ | refine Final.mk rfl rfl | refine Final.mk ?_ rfl | refine Final.mk ?_ ?_ | refine FinalT.mk ?_ ?_ | refine FinalC.allA ?_)
    | refine AV.bool_congr ?_ | refine AV.int_congr ?_ | refine AV.str_congr ?_ | refine AV.list_congr ?_ | with_reducible rfl | refine fr1 ?_ | refine fr2 ?_ ?_
theorem isDigit.ret (x : Int) : isDigit.Ret [.val (.int .i32 x)] (.val (.bool (digit x))) [] := by
  refine isDigit.of rfl ?_; unfold digit
  repeat' first
    | contradiction | exact trivial
    | (conv => whnf
       first | refine Need.mk (fun h => h) ?_ | refine Need.mk rfl ?_ | refine Need.mk ⟨rfl, Nat.le_of_ble_eq_true rfl⟩ ?_ | refine Need.mk (Nat.le_of_ble_eq_true rfl) ?_ | refine Need.fin ?_ | refine Need.mk ?_ ?_ | refine Ix.strsF rfl ?_ | refine Ix.strs rfl ?_ ?_ | refine Cut.strs rfl ?_ ?_ | refine Ix.mapF (fun _ => rfl) ?_ | refine Ix.map (fun _ => rfl) ?_ ?_ | refine Cut.map (fun _ => rfl) ?_ ?_ | refine Fork.yes (by assumption) ?_ | refine Fork.no (by assumption) ?_ | refine Fork.decYes (by omega) ?_ | refine Fork.decNo (by omega) ?_ | refine Fork.dec (fun _ => ?_) (fun _ => ?_) | refine Fork.bne (fun _ => ?_) (fun _ => ?_) | refine Fork.beq (fun _ => ?_) (fun _ => ?_) | refine Fork.seq (fun _ => ?_) (fun _ => ?_) | refine Fork.sne (fun _ => ?_) (fun _ => ?_) | refine Fork.neg (fun _ => ?_) (fun _ => ?_) | refine Fork.mk (fun _ => ?_) (fun _ => ?_) | refine HAlt.mk ?_ ?_ | apply HJoin.mk3 | exact HEnd.mk rfl rfl rfl | refine HEnd.mk ?_ ?_ ?_ | refine Round.mk ?_ | refine NilQ.mk (fun b hb => ?_) | refine forceK_of ?_ | refine forceBx_of ?_ | refine unG_old ?_ | refine unG_gv ?_ | refine Lit.read rfl ?_ | refine FinVal.keep ?_ | refine FinAgg.keep ?_ | refine Final.mk rfl rfl | refine Final.mk ?_ rfl | refine Final.mk ?_ ?_ | refine FinalT.mk ?_ ?_ | refine FinalC.allA ?_)
    | refine AV.bool_congr ?_ | refine AV.int_congr ?_ | refine AV.str_congr ?_ | refine AV.list_congr ?_ | with_reducible rfl | refine fr1 ?_ | refine fr2 ?_ ?_
def alnum (c : UInt8) : Bool := letter c.toNat || digit c.toNat
def atomF (s : Str) : Bool := s.all alnum && (decide (1 ≤ (s.length : Int)) && decide ((s.length : Int) ≤ 8))
theorem wrap64_byte (c : UInt8) : IntKind.i64.wrap (c.toNat : Int) = c.toNat := wrap64 (by omega) (by have := c.toNat_lt; omega)
theorem wrap32_byte (c : UInt8) : IntKind.i32.wrap (c.toNat : Int) = c.toNat := by have h := c.toNat_lt; exact Go.IntWalk.i32_in _ ⟨by omega, by omega⟩
theorem atomF_no {x : Str} {i : Nat} (hi : i < x.length) (h : alnum (x.getD i 0) = false) : atomF x = false := by
  have : x.all alnum = false := by
    rw [List.all_eq_false]
    refine ⟨x.getD i 0, ?_, by rw [h]; simp⟩
    simp [List.getD, hi]
  simp [atomF, this]
theorem all_succ {x : Str} {i : Nat} (hi : i < x.length) (h : (x.take i).all alnum = true) (hc : alnum (x.getD i 0) = true) : (x.take (i + 1)).all alnum = true := by
  rw [take_succ' 0 hi, List.all_append, h]; simpa using hc
theorem all_end {x : Str} {i : Nat} (hi : x.length ≤ i) (h : (x.take i).all alnum = true) : x.all alnum = true := by
  rwa [List.take_of_length_le hi] at h
theorem nor {p q : Bool} (h : (!p && !q) = true) : (p || q) = false := by cases p <;> cases q <;> simp_all
theorem nor' {p q : Bool} (h : (!p && !q) = false) : (p || q) = true := by cases p <;> cases q <;> simp_all
theorem dec_cases (x : Str) (i : Nat) (hi : i < x.length) :
    ((x.getD i 0).toNat < 128 ∧ decodeS x i = ((x.getD i 0).toNat, 1)) ∨ (128 ≤ (x.getD i 0).toNat ∧ 128 ≤ (decodeS x i).1) := by
  have hs : i < (⟨x.toArray⟩ : ByteArray).size := hi
  have he : (⟨x.toArray⟩ : ByteArray)[i]'hs = x.getD i 0 := by
    have : (⟨x.toArray⟩ : ByteArray)[i]'hs = x[i] := rfl
    rw [this]; simp [List.getD, hi]
  rcases Nat.lt_or_ge (x.getD i 0).toNat 128 with h | h
  · exact .inl ⟨h, by unfold decodeS; rw [decode_ascii _ _ hs (by rw [he]; exact h), he]⟩
  · exact .inr ⟨h, (decode_high _ _ hs (by rw [he]; exact h)).1⟩
theorem sIsAtom.ret (x : Str) (hx : x.length ≤ 1048576) : sIsAtom.Ret [.str x] (.val (.bool (atomF x))) [] := by
  refine sIsAtom.of rfl ?_
  repeat' first
    | contradiction | exact trivial
    | (conv => whnf
       first | refine Need.mk (fun h => h) ?_ | refine Need.mk rfl ?_ | refine Need.mk ⟨rfl, Nat.le_of_ble_eq_true rfl⟩ ?_ | refine Need.mk (Nat.le_of_ble_eq_true rfl) ?_ | refine Need.fin ?_ | refine Need.mk ?_ ?_ | refine Ix.strsF rfl ?_ | refine Ix.strs rfl ?_ ?_ | refine Cut.strs rfl ?_ ?_ | refine Ix.mapF (fun _ => rfl) ?_ | refine Ix.map (fun _ => rfl) ?_ ?_ | refine Cut.map (fun _ => rfl) ?_ ?_ | refine Fork.yes (by assumption) ?_ | refine Fork.no (by assumption) ?_ | refine Fork.decYes (by omega) ?_ | refine Fork.decNo (by omega) ?_ | refine Fork.dec (fun _ => ?_) (fun _ => ?_) | refine Fork.bne (fun _ => ?_) (fun _ => ?_) | refine Fork.beq (fun _ => ?_) (fun _ => ?_) | refine Fork.seq (fun _ => ?_) (fun _ => ?_) | refine Fork.sne (fun _ => ?_) (fun _ => ?_) | refine Fork.neg (fun _ => ?_) (fun _ => ?_) | refine Fork.mk (fun _ => ?_) (fun _ => ?_) | refine HAlt.mk ?_ ?_ | apply HJoin.mk3 | exact HEnd.mk rfl rfl rfl | refine HEnd.mk ?_ ?_ ?_ | refine Round.mk ?_ | refine NilQ.mk (fun b hb => ?_) | refine forceK_of ?_ | refine forceBx_of ?_ | refine unG_old ?_ | refine unG_gv ?_ | refine Lit.read rfl ?_ | refine FinVal.keep ?_ | refine FinAgg.keep ?_ | refine Final.mk rfl rfl | refine Final.mk ?_ rfl | refine Final.mk ?_ ?_ | refine FinalT.mk ?_ ?_ | refine FinalC.allA ?_)
    | refine AV.bool_congr ?_ | refine AV.int_congr ?_ | refine AV.str_congr ?_ | refine AV.list_congr ?_ | with_reducible rfl | refine fr1 ?_ | refine fr2 ?_ ?_
  refine ALoop.mk Nat (fun i => ⟨[(0, .str x), (3, .val (.int .i64 i))], [], []⟩) (fun i => i ≤ x.length ∧ (x.take i).all alnum = true) (fun i => x.length - i) ⟨0, ⟨Nat.zero_le _, rfl⟩, ?_⟩ (fun i hi => ?_)
  · repeat' first
      | exact trivial | refine Weak.mk ?_ ?_ ?_ ?_ (Or.inl (Nat.le_of_ble_eq_true rfl)) | refine Weak.mk ?_ ?_ ?_ ?_ (Or.inr ⟨(by repeat' first | exact trivial | exact Nat.le_of_ble_eq_true rfl | refine And.intro ?_ ?_), (by repeat' first | exact trivial | exact Nat.le_of_ble_eq_true rfl | refine And.intro ?_ ?_)⟩) | refine Weak.mk ?_ ?_ ?_ ?_ ?_ | refine And.intro ?_ ?_ | with_reducible rfl | exact Nat.le_of_ble_eq_true rfl | refine fr1 ?_ | refine fr2 ?_ ?_ | refine AV.int_congr ?_ | refine AV.bool_congr ?_ | refine AV.str_congr ?_ | refine AV.list_congr ?_ | refine AV.bsl_congr ?_ ?_ | (apply rfl)
  repeat' first
    | contradiction | exact trivial
    | (conv => whnf
       first | refine Need.mk (fun h => h) ?_ | refine Need.mk rfl ?_ | refine Need.mk ⟨rfl, Nat.le_of_ble_eq_true rfl⟩ ?_ | refine Need.mk (Nat.le_of_ble_eq_true rfl) ?_ | refine Need.fin ?_ | refine Need.mk ?_ ?_ | refine Ix.strsF rfl ?_ | refine Ix.strs rfl ?_ ?_ | refine Cut.strs rfl ?_ ?_ | refine Ix.mapF (fun _ => rfl) ?_ | refine Ix.map (fun _ => rfl) ?_ ?_ | refine Cut.map (fun _ => rfl) ?_ ?_ | refine Fork.yes (by assumption) ?_ | refine Fork.no (by assumption) ?_ | refine Fork.decYes (by omega) ?_ | refine Fork.decNo (by omega) ?_ | refine Fork.dec (fun _ => ?_) (fun _ => ?_) | refine Fork.bne (fun _ => ?_) (fun _ => ?_) | refine Fork.beq (fun _ => ?_) (fun _ => ?_) | refine Fork.seq (fun _ => ?_) (fun _ => ?_) | refine Fork.sne (fun _ => ?_) (fun _ => ?_) | refine Fork.neg (fun _ => ?_) (fun _ => ?_) | refine Fork.mk (fun _ => ?_) (fun _ => ?_) | refine HAlt.mk ?_ ?_ | apply HJoin.mk3 | exact HEnd.mk rfl rfl rfl | refine HEnd.mk ?_ ?_ ?_ | refine Round.mk ?_ | refine NilQ.mk (fun b hb => ?_) | refine forceK_of ?_ | refine forceBx_of ?_ | refine unG_old ?_ | refine unG_gv ?_ | refine Lit.read rfl ?_ | refine FinVal.keep ?_ | refine FinAgg.keep ?_ | refine Final.mk rfl rfl | refine Final.mk ?_ rfl | refine Final.mk ?_ ?_ | refine FinalT.mk ?_ ?_ | refine FinalC.allA ?_ | refine ACall.scalA _ _ (l1In.ret _ _ _) rfl ?_ | refine AQCall.mkA _ _ (fun hg => l1In.ret _ _ _) rfl ?_ | refine AGCall.mkA _ _ (fun hg => l1In.ret _ _ _) rfl ?_)
    | refine AV.bool_congr ?_ | refine AV.int_congr ?_ | refine AV.str_congr ?_ | refine AV.list_congr ?_ | with_reducible rfl | refine fr1 ?_ | refine fr2 ?_ ?_
  · rename_i h0 h1
    rw [atomF_no (i := i) (by omega) (by simp only [wrap64_byte, Int.toNat_natCast] at h1; exact nor h1)]
  · rename_i h0 h1
    refine ⟨i + 1, ⟨by omega, all_succ (by omega) hi.2 ?_⟩, ?_, by omega⟩
    · simp only [wrap64_byte, Int.toNat_natCast] at h1; exact nor' h1
    · repeat' first
        | exact trivial | refine Weak.mk ?_ ?_ ?_ ?_ (Or.inl (Nat.le_of_ble_eq_true rfl)) | refine Weak.mk ?_ ?_ ?_ ?_ (Or.inr ⟨(by repeat' first | exact trivial | exact Nat.le_of_ble_eq_true rfl | refine And.intro ?_ ?_), (by repeat' first | exact trivial | exact Nat.le_of_ble_eq_true rfl | refine And.intro ?_ ?_)⟩) | refine Weak.mk ?_ ?_ ?_ ?_ ?_ | refine And.intro ?_ ?_ | with_reducible rfl | exact Nat.le_of_ble_eq_true rfl | refine fr1 ?_ | refine fr2 ?_ ?_ | refine AV.int_congr ?_ | refine AV.bool_congr ?_ | refine AV.str_congr ?_ | refine AV.list_congr ?_ | refine AV.bsl_congr ?_ ?_ | (apply rfl)
      rw [wrap64 (by omega) (by omega)]; rfl
  · simp [atomF, all_end (by omega) hi.2]
theorem pIsAtom.ret (x : Str) (hx : x.length ≤ 1048576) : pIsAtom.Ret [.str x] (.val (.bool (atomF x))) [] := by
  refine pIsAtom.of rfl ?_
  repeat' first
    | contradiction | exact trivial
    | (conv => whnf
       first | refine Need.mk (fun h => h) ?_ | refine Need.mk rfl ?_ | refine Need.mk ⟨rfl, Nat.le_of_ble_eq_true rfl⟩ ?_ | refine Need.mk (Nat.le_of_ble_eq_true rfl) ?_ | refine Need.fin ?_ | refine Need.mk ?_ ?_ | refine Ix.strsF rfl ?_ | refine Ix.strs rfl ?_ ?_ | refine Cut.strs rfl ?_ ?_ | refine Ix.mapF (fun _ => rfl) ?_ | refine Ix.map (fun _ => rfl) ?_ ?_ | refine Cut.map (fun _ => rfl) ?_ ?_ | refine Fork.yes (by assumption) ?_ | refine Fork.no (by assumption) ?_ | refine Fork.decYes (by omega) ?_ | refine Fork.decNo (by omega) ?_ | refine Fork.dec (fun _ => ?_) (fun _ => ?_) | refine Fork.bne (fun _ => ?_) (fun _ => ?_) | refine Fork.beq (fun _ => ?_) (fun _ => ?_) | refine Fork.seq (fun _ => ?_) (fun _ => ?_) | refine Fork.sne (fun _ => ?_) (fun _ => ?_) | refine Fork.neg (fun _ => ?_) (fun _ => ?_) | refine Fork.mk (fun _ => ?_) (fun _ => ?_) | refine HAlt.mk ?_ ?_ | apply HJoin.mk3 | exact HEnd.mk rfl rfl rfl | refine HEnd.mk ?_ ?_ ?_ | refine Round.mk ?_ | refine NilQ.mk (fun b hb => ?_) | refine forceK_of ?_ | refine forceBx_of ?_ | refine unG_old ?_ | refine unG_gv ?_ | refine Lit.read rfl ?_ | refine FinVal.keep ?_ | refine FinAgg.keep ?_ | refine Final.mk rfl rfl | refine Final.mk ?_ rfl | refine Final.mk ?_ ?_ | refine FinalT.mk ?_ ?_ | refine FinalC.allA ?_)
    | refine AV.bool_congr ?_ | refine AV.int_congr ?_ | refine AV.str_congr ?_ | refine AV.list_congr ?_ | with_reducible rfl | refine fr1 ?_ | refine fr2 ?_ ?_
  all_goals try refine ALoop.mk Nat (fun i => ⟨[(0, .str x), (13, .bptr 0 0)], [.iter x i], []⟩) (fun i => i ≤ x.length ∧ (x.take i).all alnum = true) (fun i => x.length - i) ⟨0, ⟨Nat.zero_le _, rfl⟩, ?_⟩ (fun i hi => ?_)
  rotate_left
  · repeat' first
      | exact trivial | refine Weak.mk ?_ ?_ ?_ ?_ (Or.inl (Nat.le_of_ble_eq_true rfl)) | refine Weak.mk ?_ ?_ ?_ ?_ (Or.inr ⟨(by repeat' first | exact trivial | exact Nat.le_of_ble_eq_true rfl | refine And.intro ?_ ?_), (by repeat' first | exact trivial | exact Nat.le_of_ble_eq_true rfl | refine And.intro ?_ ?_)⟩) | refine Weak.mk ?_ ?_ ?_ ?_ ?_ | refine And.intro ?_ ?_ | with_reducible rfl | exact Nat.le_of_ble_eq_true rfl | refine fr1 ?_ | refine fr2 ?_ ?_ | refine AV.int_congr ?_ | refine AV.bool_congr ?_ | refine AV.str_congr ?_ | refine AV.list_congr ?_ | refine AV.bsl_congr ?_ ?_ | (apply rfl)
  repeat' first
    | contradiction | exact trivial
    | (conv => whnf
       first | refine Need.mk (fun h => h) ?_ | refine Need.mk rfl ?_ | refine Need.mk ⟨rfl, Nat.le_of_ble_eq_true rfl⟩ ?_ | refine Need.mk (Nat.le_of_ble_eq_true rfl) ?_ | refine Need.fin ?_ | refine Need.mk ?_ ?_ | refine Ix.strsF rfl ?_ | refine Ix.strs rfl ?_ ?_ | refine Cut.strs rfl ?_ ?_ | refine Ix.mapF (fun _ => rfl) ?_ | refine Ix.map (fun _ => rfl) ?_ ?_ | refine Cut.map (fun _ => rfl) ?_ ?_ | refine Fork.yes (by assumption) ?_ | refine Fork.no (by assumption) ?_ | refine Fork.decYes (by omega) ?_ | refine Fork.decNo (by omega) ?_ | refine Fork.dec (fun _ => ?_) (fun _ => ?_) | refine Fork.bne (fun _ => ?_) (fun _ => ?_) | refine Fork.beq (fun _ => ?_) (fun _ => ?_) | refine Fork.seq (fun _ => ?_) (fun _ => ?_) | refine Fork.sne (fun _ => ?_) (fun _ => ?_) | refine Fork.neg (fun _ => ?_) (fun _ => ?_) | refine Fork.mk (fun _ => ?_) (fun _ => ?_) | refine HAlt.mk ?_ ?_ | apply HJoin.mk3 | exact HEnd.mk rfl rfl rfl | refine HEnd.mk ?_ ?_ ?_ | refine Round.mk ?_ | refine NilQ.mk (fun b hb => ?_) | refine forceK_of ?_ | refine forceBx_of ?_ | refine unG_old ?_ | refine unG_gv ?_ | refine Lit.read rfl ?_ | refine FinVal.keep ?_ | refine FinAgg.keep ?_ | refine Final.mk rfl rfl | refine Final.mk ?_ rfl | refine Final.mk ?_ ?_ | refine FinalT.mk ?_ ?_ | refine FinalC.allA ?_ | refine ACall.scalA _ _ (isLetter.ret _) rfl ?_ | refine AQCall.mkA _ _ (fun hg => isLetter.ret _) rfl ?_ | refine AGCall.mkA _ _ (fun hg => isLetter.ret _) rfl ?_ | refine ACall.scalA _ _ (isDigit.ret _) rfl ?_ | refine AQCall.mkA _ _ (fun hg => isDigit.ret _) rfl ?_ | refine AGCall.mkA _ _ (fun hg => isDigit.ret _) rfl ?_)
    | refine AV.bool_congr ?_ | refine AV.int_congr ?_ | refine AV.str_congr ?_ | refine AV.list_congr ?_ | with_reducible rfl | refine fr1 ?_ | refine fr2 ?_ ?_
  · rename_i h0 _ h1
    refine (atomF_no h0 ?_).symm
    rcases dec_cases x i h0 with ⟨_, h⟩ | ⟨h, _⟩
    · rw [h] at h1; exact nor h1
    · rw [List.getD_eq_getElem?_getD] at h; simp [alnum, letter, digit]; omega
  · rename_i h0 _ h1
    rcases dec_cases x i h0 with ⟨_, h⟩ | ⟨_, h⟩
    · rw [h] at h1
      refine ⟨i + 1, ⟨h0, all_succ h0 hi.2 (nor' h1)⟩, ?_, by omega⟩
      repeat' first
        | exact trivial | refine Weak.mk ?_ ?_ ?_ ?_ (Or.inl (Nat.le_of_ble_eq_true rfl)) | refine Weak.mk ?_ ?_ ?_ ?_ (Or.inr ⟨(by repeat' first | exact trivial | exact Nat.le_of_ble_eq_true rfl | refine And.intro ?_ ?_), (by repeat' first | exact trivial | exact Nat.le_of_ble_eq_true rfl | refine And.intro ?_ ?_)⟩) | refine Weak.mk ?_ ?_ ?_ ?_ ?_ | refine And.intro ?_ ?_ | with_reducible rfl | exact Nat.le_of_ble_eq_true rfl | refine fr1 ?_ | refine fr2 ?_ ?_ | refine AV.int_congr ?_ | refine AV.bool_congr ?_ | refine AV.str_congr ?_ | refine AV.list_congr ?_ | refine AV.bsl_congr ?_ ?_ | (apply rfl)
      simp [h]
    · exfalso
      revert h1; simp [letter, digit]; omega
  · rename_i h1 h2 _
    simp only [Bool.or_eq_false_iff, decide_eq_false_iff_not] at h1
    have h3 : x ≠ [] := by simpa using h1.1
    have h4 : 0 < x.length := List.length_pos_iff.2 h3
    have h5 : (1 : Int) ≤ x.length := by omega
    have h6 : (x.length : Int) ≤ 8 := by omega
    simp [atomF, all_end (by omega) hi.2, h5, h6]
  · rename_i h1
    rcases Bool.or_eq_true_iff.1 h1 with h | h
    · have h3 : x = [] := by simpa using h
      subst h3; rfl
    · have : ¬ ((x.length : Int) ≤ 8) := by have := of_decide_eq_true h; omega
      simp [atomF, this]
end Go.Proofs.YtimcfgokocihnaaGreat
namespace Go.Proofs.YtimcfgokocihnaaGreat
open Abs
def nameF (x : Str) : Bool := atomF x && letter (x.getD 0 0).toNat
def varF (x : Str) : Bool := decide (1 < (x.length : Int)) && ((x.getD 0 0).toNat : Int) == 63 && atomF (x.drop 1)
theorem atomF_pos {x : Str} (h : atomF x = true) : 1 ≤ x.length := by
  simp only [atomF, Bool.and_eq_true, decide_eq_true_eq] at h; omega
theorem sIsName.ret (x : Str) (hx : x.length ≤ 1048576) : sIsName.Ret [.str x] (.val (.bool (nameF x))) [] := by
  refine sIsName.of rfl ?_
  repeat' first
    | contradiction | exact trivial
    | (conv => whnf
       first | refine Need.mk (fun h => h) ?_ | refine Need.mk rfl ?_ | refine Need.mk ⟨rfl, Nat.le_of_ble_eq_true rfl⟩ ?_ | refine Need.mk (Nat.le_of_ble_eq_true rfl) ?_ | refine Need.fin ?_ | refine Need.mk ?_ ?_ | refine Ix.strsF rfl ?_ | refine Ix.strs rfl ?_ ?_ | refine Cut.strs rfl ?_ ?_ | refine Ix.mapF (fun _ => rfl) ?_ | refine Ix.map (fun _ => rfl) ?_ ?_ | refine Cut.map (fun _ => rfl) ?_ ?_ | refine Fork.yes (by assumption) ?_ | refine Fork.no (by assumption) ?_ | refine Fork.decYes (by omega) ?_ | refine Fork.decNo (by omega) ?_ | refine Fork.dec (fun _ => ?_) (fun _ => ?_) | refine Fork.bne (fun _ => ?_) (fun _ => ?_) | refine Fork.beq (fun _ => ?_) (fun _ => ?_) | refine Fork.seq (fun _ => ?_) (fun _ => ?_) | refine Fork.sne (fun _ => ?_) (fun _ => ?_) | refine Fork.neg (fun _ => ?_) (fun _ => ?_) | refine Fork.mk (fun _ => ?_) (fun _ => ?_) | refine HAlt.mk ?_ ?_ | apply HJoin.mk3 | exact HEnd.mk rfl rfl rfl | refine HEnd.mk ?_ ?_ ?_ | refine Round.mk ?_ | refine NilQ.mk (fun b hb => ?_) | refine forceK_of ?_ | refine forceBx_of ?_ | refine unG_old ?_ | refine unG_gv ?_ | refine Lit.read rfl ?_ | refine FinVal.keep ?_ | refine FinAgg.keep ?_ | refine Final.mk rfl rfl | refine Final.mk ?_ rfl | refine Final.mk ?_ ?_ | refine FinalT.mk ?_ ?_ | refine FinalC.allA ?_ | refine ACall.scalA _ _ (sIsAtom.ret _ ?_) rfl ?_ | refine AQCall.mkA _ _ (fun hg => sIsAtom.ret _ ?_) rfl ?_ | refine AGCall.mkA _ _ (fun hg => sIsAtom.ret _ ?_) rfl ?_ | refine ACall.scalA _ _ (l1In.ret _ _ _) rfl ?_ | refine AQCall.mkA _ _ (fun hg => l1In.ret _ _ _) rfl ?_ | refine AGCall.mkA _ _ (fun hg => l1In.ret _ _ _) rfl ?_)
    | refine AV.bool_congr ?_ | refine AV.int_congr ?_ | refine AV.str_congr ?_ | refine AV.list_congr ?_ | with_reducible rfl | refine fr1 ?_ | refine fr2 ?_ ?_
  · exact hx
  · intro h; have := atomF_pos h; omega
  · simp only [nameF, letter, wrap64_byte]; rfl
theorem pIsName.ret (x : Str) (hx : x.length ≤ 1048576) : pIsName.Ret [.str x] (.val (.bool (nameF x))) [] := by
  refine pIsName.of rfl ?_
  repeat' first
    | contradiction | exact trivial
    | (conv => whnf
       first | refine Need.mk (fun h => h) ?_ | refine Need.mk rfl ?_ | refine Need.mk ⟨rfl, Nat.le_of_ble_eq_true rfl⟩ ?_ | refine Need.mk (Nat.le_of_ble_eq_true rfl) ?_ | refine Need.fin ?_ | refine Need.mk ?_ ?_ | refine Ix.strsF rfl ?_ | refine Ix.strs rfl ?_ ?_ | refine Cut.strs rfl ?_ ?_ | refine Ix.mapF (fun _ => rfl) ?_ | refine Ix.map (fun _ => rfl) ?_ ?_ | refine Cut.map (fun _ => rfl) ?_ ?_ | refine Fork.yes (by assumption) ?_ | refine Fork.no (by assumption) ?_ | refine Fork.decYes (by omega) ?_ | refine Fork.decNo (by omega) ?_ | refine Fork.dec (fun _ => ?_) (fun _ => ?_) | refine Fork.bne (fun _ => ?_) (fun _ => ?_) | refine Fork.beq (fun _ => ?_) (fun _ => ?_) | refine Fork.seq (fun _ => ?_) (fun _ => ?_) | refine Fork.sne (fun _ => ?_) (fun _ => ?_) | refine Fork.neg (fun _ => ?_) (fun _ => ?_) | refine Fork.mk (fun _ => ?_) (fun _ => ?_) | refine HAlt.mk ?_ ?_ | apply HJoin.mk3 | exact HEnd.mk rfl rfl rfl | refine HEnd.mk ?_ ?_ ?_ | refine Round.mk ?_ | refine NilQ.mk (fun b hb => ?_) | refine forceK_of ?_ | refine forceBx_of ?_ | refine unG_old ?_ | refine unG_gv ?_ | refine Lit.read rfl ?_ | refine FinVal.keep ?_ | refine FinAgg.keep ?_ | refine Final.mk rfl rfl | refine Final.mk ?_ rfl | refine Final.mk ?_ ?_ | refine FinalT.mk ?_ ?_ | refine FinalC.allA ?_ | refine ACall.scalA _ _ (pIsAtom.ret _ ?_) rfl ?_ | refine AQCall.mkA _ _ (fun hg => pIsAtom.ret _ ?_) rfl ?_ | refine AGCall.mkA _ _ (fun hg => pIsAtom.ret _ ?_) rfl ?_ | refine ACall.scalA _ _ (isLetter.ret _) rfl ?_ | refine AQCall.mkA _ _ (fun hg => isLetter.ret _) rfl ?_ | refine AGCall.mkA _ _ (fun hg => isLetter.ret _) rfl ?_)
    | refine AV.bool_congr ?_ | refine AV.int_congr ?_ | refine AV.str_congr ?_ | refine AV.list_congr ?_ | with_reducible rfl | refine fr1 ?_ | refine fr2 ?_ ?_
  · exact hx
  · intro h; have := atomF_pos h; omega
  · simp only [nameF, wrap32_byte]; rfl
end Go.Proofs.YtimcfgokocihnaaGreat
namespace Go.Proofs.YtimcfgokocihnaaGreat
open Abs
theorem sIsVar.ret (x : Str) (hx : x.length ≤ 1048576) : sIsVar.Ret [.str x] (.val (.bool (varF x))) [] := by
  refine sIsVar.of rfl ?_
  repeat' first
    | contradiction | exact trivial
    | (conv => whnf
       first | refine Need.mk (fun h => h) ?_ | refine Need.mk rfl ?_ | refine Need.mk ⟨rfl, Nat.le_of_ble_eq_true rfl⟩ ?_ | refine Need.mk (Nat.le_of_ble_eq_true rfl) ?_ | refine Need.fin ?_ | refine Need.mk ?_ ?_ | refine Ix.strsF rfl ?_ | refine Ix.strs rfl ?_ ?_ | refine Cut.strs rfl ?_ ?_ | refine Ix.mapF (fun _ => rfl) ?_ | refine Ix.map (fun _ => rfl) ?_ ?_ | refine Cut.map (fun _ => rfl) ?_ ?_ | refine Fork.yes (by assumption) ?_ | refine Fork.no (by assumption) ?_ | refine Fork.decYes (by omega) ?_ | refine Fork.decNo (by omega) ?_ | refine Fork.dec (fun _ => ?_) (fun _ => ?_) | refine Fork.bne (fun _ => ?_) (fun _ => ?_) | refine Fork.beq (fun _ => ?_) (fun _ => ?_) | refine Fork.seq (fun _ => ?_) (fun _ => ?_) | refine Fork.sne (fun _ => ?_) (fun _ => ?_) | refine Fork.neg (fun _ => ?_) (fun _ => ?_) | refine Fork.mk (fun _ => ?_) (fun _ => ?_) | refine HAlt.mk ?_ ?_ | apply HJoin.mk3 | exact HEnd.mk rfl rfl rfl | refine HEnd.mk ?_ ?_ ?_ | refine Round.mk ?_ | refine NilQ.mk (fun b hb => ?_) | refine forceK_of ?_ | refine forceBx_of ?_ | refine unG_old ?_ | refine unG_gv ?_ | refine Lit.read rfl ?_ | refine FinVal.keep ?_ | refine FinAgg.keep ?_ | refine Final.mk rfl rfl | refine Final.mk ?_ rfl | refine Final.mk ?_ ?_ | refine FinalT.mk ?_ ?_ | refine FinalC.allA ?_ | refine ACall.scalA _ _ (sIsAtom.ret _ ?_) rfl ?_ | refine AQCall.mkA _ _ (fun hg => sIsAtom.ret _ ?_) rfl ?_ | refine AGCall.mkA _ _ (fun hg => sIsAtom.ret _ ?_) rfl ?_)
    | refine AV.bool_congr ?_ | refine AV.int_congr ?_ | refine AV.str_congr ?_ | refine AV.list_congr ?_ | with_reducible rfl | refine fr1 ?_ | refine fr2 ?_ ?_
  · simp; omega
  · simp [varF]
def hasP (x p : Str) : Bool := decide ((p.length : Int) ≤ x.length) && x.take p.length == p
def cutP (x p : Str) : Str := if hasP x p then x.drop p.length else x
theorem slHasPrefix.ret (x p : Str) : slHasPrefix.Ret [.str x, .str p] (.val (.bool (hasP x p))) [] := by
  refine slHasPrefix.of rfl ?_
  repeat' first
    | contradiction | exact trivial
    | (conv => whnf
       first | refine Need.mk (fun h => h) ?_ | refine Need.mk rfl ?_ | refine Need.mk ⟨rfl, Nat.le_of_ble_eq_true rfl⟩ ?_ | refine Need.mk (Nat.le_of_ble_eq_true rfl) ?_ | refine Need.fin ?_ | refine Need.mk ?_ ?_ | refine Ix.strsF rfl ?_ | refine Ix.strs rfl ?_ ?_ | refine Cut.strs rfl ?_ ?_ | refine Ix.mapF (fun _ => rfl) ?_ | refine Ix.map (fun _ => rfl) ?_ ?_ | refine Cut.map (fun _ => rfl) ?_ ?_ | refine Fork.yes (by assumption) ?_ | refine Fork.no (by assumption) ?_ | refine Fork.decYes (by omega) ?_ | refine Fork.decNo (by omega) ?_ | refine Fork.dec (fun _ => ?_) (fun _ => ?_) | refine Fork.bne (fun _ => ?_) (fun _ => ?_) | refine Fork.beq (fun _ => ?_) (fun _ => ?_) | refine Fork.seq (fun _ => ?_) (fun _ => ?_) | refine Fork.sne (fun _ => ?_) (fun _ => ?_) | refine Fork.neg (fun _ => ?_) (fun _ => ?_) | refine Fork.mk (fun _ => ?_) (fun _ => ?_) | refine HAlt.mk ?_ ?_ | apply HJoin.mk3 | exact HEnd.mk rfl rfl rfl | refine HEnd.mk ?_ ?_ ?_ | refine Round.mk ?_ | refine NilQ.mk (fun b hb => ?_) | refine forceK_of ?_ | refine forceBx_of ?_ | refine unG_old ?_ | refine unG_gv ?_ | refine Lit.read rfl ?_ | refine FinVal.keep ?_ | refine FinAgg.keep ?_ | refine Final.mk rfl rfl | refine Final.mk ?_ rfl | refine Final.mk ?_ ?_ | refine FinalT.mk ?_ ?_ | refine FinalC.allA ?_)
    | refine AV.bool_congr ?_ | refine AV.int_congr ?_ | refine AV.str_congr ?_ | refine AV.list_congr ?_ | with_reducible rfl | refine fr1 ?_ | refine fr2 ?_ ?_
  all_goals simp [hasP]
theorem slCutPrefix.ret (x p : Str) : slCutPrefix.Ret [.str x, .str p] (.tup [.str (cutP x p), .val (.bool (hasP x p))]) [] := by
  refine slCutPrefix.of rfl ?_
  repeat' first
    | contradiction | exact trivial
    | (conv => whnf
       first | refine Need.mk (fun h => h) ?_ | refine Need.mk rfl ?_ | refine Need.mk ⟨rfl, Nat.le_of_ble_eq_true rfl⟩ ?_ | refine Need.mk (Nat.le_of_ble_eq_true rfl) ?_ | refine Need.fin ?_ | refine Need.mk ?_ ?_ | refine Ix.strsF rfl ?_ | refine Ix.strs rfl ?_ ?_ | refine Cut.strs rfl ?_ ?_ | refine Ix.mapF (fun _ => rfl) ?_ | refine Ix.map (fun _ => rfl) ?_ ?_ | refine Cut.map (fun _ => rfl) ?_ ?_ | refine Fork.yes (by assumption) ?_ | refine Fork.no (by assumption) ?_ | refine Fork.decYes (by omega) ?_ | refine Fork.decNo (by omega) ?_ | refine Fork.dec (fun _ => ?_) (fun _ => ?_) | refine Fork.bne (fun _ => ?_) (fun _ => ?_) | refine Fork.beq (fun _ => ?_) (fun _ => ?_) | refine Fork.seq (fun _ => ?_) (fun _ => ?_) | refine Fork.sne (fun _ => ?_) (fun _ => ?_) | refine Fork.neg (fun _ => ?_) (fun _ => ?_) | refine Fork.mk (fun _ => ?_) (fun _ => ?_) | refine HAlt.mk ?_ ?_ | apply HJoin.mk3 | exact HEnd.mk rfl rfl rfl | refine HEnd.mk ?_ ?_ ?_ | refine Round.mk ?_ | refine NilQ.mk (fun b hb => ?_) | refine forceK_of ?_ | refine forceBx_of ?_ | refine unG_old ?_ | refine unG_gv ?_ | refine Lit.read rfl ?_ | refine FinVal.keep ?_ | refine FinAgg.keep ?_ | refine Final.mk rfl rfl | refine Final.mk ?_ rfl | refine Final.mk ?_ ?_ | refine FinalT.mk ?_ ?_ | refine FinalC.allA ?_ | refine ACall.scalA _ _ (slHasPrefix.ret _ _) rfl ?_ | refine AQCall.mkA _ _ (fun hg => slHasPrefix.ret _ _) rfl ?_ | refine AGCall.mkA _ _ (fun hg => slHasPrefix.ret _ _) rfl ?_)
    | refine AV.bool_congr ?_ | refine AV.int_congr ?_ | refine AV.str_congr ?_ | refine AV.list_congr ?_ | with_reducible rfl | refine fr1 ?_ | refine fr2 ?_ ?_
  · rename_i h; simp [cutP, h]
  all_goals first
    | (rename_i h; simp only [hasP, Bool.and_eq_true, decide_eq_true_eq] at h; simp; omega)
    | (rename_i h; simp [cutP, h]; done)
    | (rename_i h; simp only [hasP, Bool.and_eq_true, decide_eq_true_eq] at h; omega)
theorem cutPrefix.ret (x p : Str) : cutPrefix.Ret [.str x, .str p] (.tup [.str (cutP x p), .val (.bool (hasP x p))]) [] := by
  refine cutPrefix.of rfl ?_
  repeat' first
    | contradiction | exact trivial
    | (conv => whnf
       first | refine Need.mk (fun h => h) ?_ | refine Need.mk rfl ?_ | refine Need.mk ⟨rfl, Nat.le_of_ble_eq_true rfl⟩ ?_ | refine Need.mk (Nat.le_of_ble_eq_true rfl) ?_ | refine Need.fin ?_ | refine Need.mk ?_ ?_ | refine Ix.strsF rfl ?_ | refine Ix.strs rfl ?_ ?_ | refine Cut.strs rfl ?_ ?_ | refine Ix.mapF (fun _ => rfl) ?_ | refine Ix.map (fun _ => rfl) ?_ ?_ | refine Cut.map (fun _ => rfl) ?_ ?_ | refine Fork.yes (by assumption) ?_ | refine Fork.no (by assumption) ?_ | refine Fork.decYes (by omega) ?_ | refine Fork.decNo (by omega) ?_ | refine Fork.dec (fun _ => ?_) (fun _ => ?_) | refine Fork.bne (fun _ => ?_) (fun _ => ?_) | refine Fork.beq (fun _ => ?_) (fun _ => ?_) | refine Fork.seq (fun _ => ?_) (fun _ => ?_) | refine Fork.sne (fun _ => ?_) (fun _ => ?_) | refine Fork.neg (fun _ => ?_) (fun _ => ?_) | refine Fork.mk (fun _ => ?_) (fun _ => ?_) | refine HAlt.mk ?_ ?_ | apply HJoin.mk3 | exact HEnd.mk rfl rfl rfl | refine HEnd.mk ?_ ?_ ?_ | refine Round.mk ?_ | refine NilQ.mk (fun b hb => ?_) | refine forceK_of ?_ | refine forceBx_of ?_ | refine unG_old ?_ | refine unG_gv ?_ | refine Lit.read rfl ?_ | refine FinVal.keep ?_ | refine FinAgg.keep ?_ | refine Final.mk rfl rfl | refine Final.mk ?_ rfl | refine Final.mk ?_ ?_ | refine FinalT.mk ?_ ?_ | refine FinalC.allA ?_ | refine ACall.scalA _ _ (slCutPrefix.ret _ _) rfl ?_ | refine AQCall.mkA _ _ (fun hg => slCutPrefix.ret _ _) rfl ?_ | refine AGCall.mkA _ _ (fun hg => slCutPrefix.ret _ _) rfl ?_)
    | refine AV.bool_congr ?_ | refine AV.int_congr ?_ | refine AV.str_congr ?_ | refine AV.list_congr ?_ | with_reducible rfl | refine fr1 ?_ | refine fr2 ?_ ?_
theorem var_eq (x : Str) : (hasP x [63] && atomF (cutP x [63])) = varF x := by
  match x with
  | [] => rfl
  | [c] =>
    have : varF [c] = false := by simp [varF]
    rw [this]
    cases h : hasP [c] [63] with
    | false => rfl
    | true => simp [cutP, h, atomF]
  | c :: d :: x =>
    by_cases hc : c = 63
    · subst hc
      have h : hasP (63 :: d :: x) [63] = true := by simp [hasP]; omega
      simp [h, cutP, varF]; omega
    · have h : hasP (c :: d :: x) [63] = false := by simp [hasP, hc]
      have h2 : ¬ (c.toNat : Int) = 63 := fun e => hc (by
        have : c.toNat = 63 := by omega
        rw [← UInt8.ofNat_toNat (x := c), this]; rfl)
      simp [h, varF, h2]
theorem pIsVar.ret (x : Str) (hx : x.length ≤ 1048576) : pIsVar.Ret [.str x] (.val (.bool (varF x))) [] := by
  refine pIsVar.of rfl ?_
  repeat' first
    | contradiction | exact trivial
    | (conv => whnf
       first | refine Need.mk (fun h => h) ?_ | refine Need.mk rfl ?_ | refine Need.mk ⟨rfl, Nat.le_of_ble_eq_true rfl⟩ ?_ | refine Need.mk (Nat.le_of_ble_eq_true rfl) ?_ | refine Need.fin ?_ | refine Need.mk ?_ ?_ | refine Ix.strsF rfl ?_ | refine Ix.strs rfl ?_ ?_ | refine Cut.strs rfl ?_ ?_ | refine Ix.mapF (fun _ => rfl) ?_ | refine Ix.map (fun _ => rfl) ?_ ?_ | refine Cut.map (fun _ => rfl) ?_ ?_ | refine Fork.yes (by assumption) ?_ | refine Fork.no (by assumption) ?_ | refine Fork.decYes (by omega) ?_ | refine Fork.decNo (by omega) ?_ | refine Fork.dec (fun _ => ?_) (fun _ => ?_) | refine Fork.bne (fun _ => ?_) (fun _ => ?_) | refine Fork.beq (fun _ => ?_) (fun _ => ?_) | refine Fork.seq (fun _ => ?_) (fun _ => ?_) | refine Fork.sne (fun _ => ?_) (fun _ => ?_) | refine Fork.neg (fun _ => ?_) (fun _ => ?_) | refine Fork.mk (fun _ => ?_) (fun _ => ?_) | refine HAlt.mk ?_ ?_ | apply HJoin.mk3 | exact HEnd.mk rfl rfl rfl | refine HEnd.mk ?_ ?_ ?_ | refine Round.mk ?_ | refine NilQ.mk (fun b hb => ?_) | refine forceK_of ?_ | refine forceBx_of ?_ | refine unG_old ?_ | refine unG_gv ?_ | refine Lit.read rfl ?_ | refine FinVal.keep ?_ | refine FinAgg.keep ?_ | refine Final.mk rfl rfl | refine Final.mk ?_ rfl | refine Final.mk ?_ ?_ | refine FinalT.mk ?_ ?_ | refine FinalC.allA ?_ | refine ACall.scalA _ _ (pIsAtom.ret _ ?_) rfl ?_ | refine AQCall.mkA _ _ (fun hg => pIsAtom.ret _ ?_) rfl ?_ | refine AGCall.mkA _ _ (fun hg => pIsAtom.ret _ ?_) rfl ?_ | refine ACall.scalA _ _ (cutPrefix.ret _ _) rfl ?_ | refine AQCall.mkA _ _ (fun hg => cutPrefix.ret _ _) rfl ?_ | refine AGCall.mkA _ _ (fun hg => cutPrefix.ret _ _) rfl ?_)
    | refine AV.bool_congr ?_ | refine AV.int_congr ?_ | refine AV.str_congr ?_ | refine AV.list_congr ?_ | with_reducible rfl | refine fr1 ?_ | refine fr2 ?_ ?_
  · simp only [cutP]; split <;> simp <;> omega
  · exact var_eq x
theorem sIsTerm.ret (x : Str) (hx : x.length ≤ 1048576) : sIsTerm.Ret [.str x] (.val (.bool (atomF x || varF x))) [] := by
  refine sIsTerm.of rfl ?_
  repeat' first
    | contradiction | exact trivial
    | (conv => whnf
       first | refine Need.mk (fun h => h) ?_ | refine Need.mk rfl ?_ | refine Need.mk ⟨rfl, Nat.le_of_ble_eq_true rfl⟩ ?_ | refine Need.mk (Nat.le_of_ble_eq_true rfl) ?_ | refine Need.fin ?_ | refine Need.mk ?_ ?_ | refine Ix.strsF rfl ?_ | refine Ix.strs rfl ?_ ?_ | refine Cut.strs rfl ?_ ?_ | refine Ix.mapF (fun _ => rfl) ?_ | refine Ix.map (fun _ => rfl) ?_ ?_ | refine Cut.map (fun _ => rfl) ?_ ?_ | refine Fork.yes (by assumption) ?_ | refine Fork.no (by assumption) ?_ | refine Fork.decYes (by omega) ?_ | refine Fork.decNo (by omega) ?_ | refine Fork.dec (fun _ => ?_) (fun _ => ?_) | refine Fork.bne (fun _ => ?_) (fun _ => ?_) | refine Fork.beq (fun _ => ?_) (fun _ => ?_) | refine Fork.seq (fun _ => ?_) (fun _ => ?_) | refine Fork.sne (fun _ => ?_) (fun _ => ?_) | refine Fork.neg (fun _ => ?_) (fun _ => ?_) | refine Fork.mk (fun _ => ?_) (fun _ => ?_) | refine HAlt.mk ?_ ?_ | apply HJoin.mk3 | exact HEnd.mk rfl rfl rfl | refine HEnd.mk ?_ ?_ ?_ | refine Round.mk ?_ | refine NilQ.mk (fun b hb => ?_) | refine forceK_of ?_ | refine forceBx_of ?_ | refine unG_old ?_ | refine unG_gv ?_ | refine Lit.read rfl ?_ | refine FinVal.keep ?_ | refine FinAgg.keep ?_ | refine Final.mk rfl rfl | refine Final.mk ?_ rfl | refine Final.mk ?_ ?_ | refine FinalT.mk ?_ ?_ | refine FinalC.allA ?_ | refine ACall.scalA _ _ (sIsAtom.ret _ ?_) rfl ?_ | refine AQCall.mkA _ _ (fun hg => sIsAtom.ret _ ?_) rfl ?_ | refine AGCall.mkA _ _ (fun hg => sIsAtom.ret _ ?_) rfl ?_ | refine ACall.scalA _ _ (sIsVar.ret _ ?_) rfl ?_ | refine AQCall.mkA _ _ (fun hg => sIsVar.ret _ ?_) rfl ?_ | refine AGCall.mkA _ _ (fun hg => sIsVar.ret _ ?_) rfl ?_)
    | refine AV.bool_congr ?_ | refine AV.int_congr ?_ | refine AV.str_congr ?_ | refine AV.list_congr ?_ | with_reducible rfl | refine fr1 ?_ | refine fr2 ?_ ?_
  all_goals exact hx
theorem pIsTerm.ret (x : Str) (hx : x.length ≤ 1048576) : pIsTerm.Ret [.str x] (.val (.bool (atomF x || varF x))) [] := by
  refine pIsTerm.of rfl ?_
  repeat' first
    | contradiction | exact trivial
    | (conv => whnf
       first | refine Need.mk (fun h => h) ?_ | refine Need.mk rfl ?_ | refine Need.mk ⟨rfl, Nat.le_of_ble_eq_true rfl⟩ ?_ | refine Need.mk (Nat.le_of_ble_eq_true rfl) ?_ | refine Need.fin ?_ | refine Need.mk ?_ ?_ | refine Ix.strsF rfl ?_ | refine Ix.strs rfl ?_ ?_ | refine Cut.strs rfl ?_ ?_ | refine Ix.mapF (fun _ => rfl) ?_ | refine Ix.map (fun _ => rfl) ?_ ?_ | refine Cut.map (fun _ => rfl) ?_ ?_ | refine Fork.yes (by assumption) ?_ | refine Fork.no (by assumption) ?_ | refine Fork.decYes (by omega) ?_ | refine Fork.decNo (by omega) ?_ | refine Fork.dec (fun _ => ?_) (fun _ => ?_) | refine Fork.bne (fun _ => ?_) (fun _ => ?_) | refine Fork.beq (fun _ => ?_) (fun _ => ?_) | refine Fork.seq (fun _ => ?_) (fun _ => ?_) | refine Fork.sne (fun _ => ?_) (fun _ => ?_) | refine Fork.neg (fun _ => ?_) (fun _ => ?_) | refine Fork.mk (fun _ => ?_) (fun _ => ?_) | refine HAlt.mk ?_ ?_ | apply HJoin.mk3 | exact HEnd.mk rfl rfl rfl | refine HEnd.mk ?_ ?_ ?_ | refine Round.mk ?_ | refine NilQ.mk (fun b hb => ?_) | refine forceK_of ?_ | refine forceBx_of ?_ | refine unG_old ?_ | refine unG_gv ?_ | refine Lit.read rfl ?_ | refine FinVal.keep ?_ | refine FinAgg.keep ?_ | refine Final.mk rfl rfl | refine Final.mk ?_ rfl | refine Final.mk ?_ ?_ | refine FinalT.mk ?_ ?_ | refine FinalC.allA ?_ | refine ACall.scalA _ _ (pIsAtom.ret _ ?_) rfl ?_ | refine AQCall.mkA _ _ (fun hg => pIsAtom.ret _ ?_) rfl ?_ | refine AGCall.mkA _ _ (fun hg => pIsAtom.ret _ ?_) rfl ?_ | refine ACall.scalA _ _ (pIsVar.ret _ ?_) rfl ?_ | refine AQCall.mkA _ _ (fun hg => pIsVar.ret _ ?_) rfl ?_ | refine AGCall.mkA _ _ (fun hg => pIsVar.ret _ ?_) rfl ?_)
    | refine AV.bool_congr ?_ | refine AV.int_congr ?_ | refine AV.str_congr ?_ | refine AV.list_congr ?_ | with_reducible rfl | refine fr1 ?_ | refine fr2 ?_ ?_
  all_goals exact hx
end Go.Proofs.YtimcfgokocihnaaGreat
namespace Go.Proofs.YtimcfgokocihnaaGreat
open Abs
def sIsPattern.code : ACode := (.seq (.region false [s 1 (.box (t 0)), s 2 (.mv (.const (.bool false)))]) (.seq (.seq (.region false [s 3 (.mv (.const (.int .i64 0)))]) (.block 0 (.loop (.seq (.seq (.region false [s 4 (.mv (t 3)), s 5 (.fadr 1 (t 1)), s 6 (.load false 1 (t 5)), s 7 (.len false (t 6)), s 8 (.bin .lss (t 4) (t 7))]) (.cond (t 8) .skip (.exit 0))) (.seq (.block 1 (.seq (.region false [s 11 (.fadr 1 (t 1)), s 12 (.load false 1 (t 11)), s 13 (.mv (t 3)), s 14 (.iadr 1 (t 12) (t 13)), s 15 (.load false 1 (t 14)), s 16 (.call 51 [(t 15)]), s 17 (.not (t 16))]) (.cond (t 17) (.seq (.region false [s 2 (.mv (.const (.bool false)))]) .ret) .skip))) (.region false [s 9 (.mv (t 3)), s 10 (.bin .add (t 9) (.const (.int .i64 1))), s 3 (.mv (t 10))])))))) (.seq (.region false [s 18 (.fadr 0 (t 1)), s 19 (.load false 1 (t 18)), s 20 (.call 20 [(t 19)]), s 21 (.mv (t 20)), g 21 true 22 (.fadr 1 (t 1)), g 21 true 23 (.load false 1 (t 22)), g 21 true 24 (.len false (t 23)), g 21 true 25 (.bin .leq (t 24) (.const (.int .i64 3))), s 26 (.and (t 21) (t 25)), s 2 (.mv (t 26))]) .ret)))
def sIsPattern.keep : List Nat := [0, 1, 2, 3]
def sIsPattern.res : List RRes := [.tmp 2]
theorem sIsPattern.of {mo : Bool} {args : List AV} {r : AV} {frs : Fr} (hn : Nat.ble args.length Tryz.f50.ntmps = true) (h : aCode (Kn mo Tryz.prog) sIsPattern.keep 0 sIsPattern.code (doneK sIsPattern.res r frs) ⟨argEnv 0 args, [], []⟩) : Abs.Ret mo Tryz.prog 50 args r frs :=
  Abs.Ret.of_ir Tryz.func50 rfl (by kernel_rfl) (Nat.le_of_ble_eq_true hn) (by kernel_rfl) (by kernel_rfl) h
abbrev sIsPattern.Ret (args : List AV) (r : AV) (frs : Fr) : Prop := Abs.Ret true Tryz.prog 50 args r frs
def pIsPattern.code : ACode := (.seq (.region false [s 1 (.box (t 0)), s 2 (.mv (.const (.bool false)))]) (.seq (.region false [s 3 (.fadr 0 (t 1)), s 4 (.load false 1 (t 3)), s 5 (.fadr 1 (t 1)), s 6 (.load false 1 (t 5)), s 7 (.call 90 [(t 4), (t 6), (.func 91)]), s 2 (.mv (t 7))]) .ret))
def pIsPattern.keep : List Nat := [0, 1, 2]
def pIsPattern.res : List RRes := [.tmp 2]
theorem pIsPattern.of {mo : Bool} {args : List AV} {r : AV} {frs : Fr} (hn : Nat.ble args.length Tryz.f73.ntmps = true) (h : aCode (Kn mo Tryz.prog) pIsPattern.keep 0 pIsPattern.code (doneK pIsPattern.res r frs) ⟨argEnv 0 args, [], []⟩) : Abs.Ret mo Tryz.prog 73 args r frs :=
  Abs.Ret.of_ir Tryz.func73 rfl (by kernel_rfl) (Nat.le_of_ble_eq_true hn) (by kernel_rfl) (by kernel_rfl) h
abbrev pIsPattern.Ret (args : List AV) (r : AV) (frs : Fr) : Prop := Abs.Ret true Tryz.prog 73 args r frs
def sVarsOf.code : ACode := (.seq (.region false [s 1 (.box (t 0)), s 2 (.mv (.const (.slice none 0 0)))]) (.seq (.region false [s 5 (.bslice 9 1 true []), s 3 (.mv (t 5))]) (.seq (.seq (.region false [s 4 (.mv (.const (.int .i64 0)))]) (.block 0 (.loop (.seq (.seq (.region false [s 6 (.mv (t 4)), s 7 (.fadr 1 (t 1)), s 8 (.load false 1 (t 7)), s 9 (.len false (t 8)), s 10 (.bin .lss (t 6) (t 9))]) (.cond (t 10) .skip (.exit 0))) (.seq (.block 1 (.seq (.region false [s 13 (.fadr 1 (t 1)), s 14 (.load false 1 (t 13)), s 15 (.mv (t 4)), s 16 (.iadr 1 (t 14) (t 15)), s 17 (.load false 1 (t 16)), s 18 (.call 52 [(t 17)])]) (.cond (t 18) (.region false [s 19 (.mv (t 3)), s 20 (.fadr 1 (t 1)), s 21 (.load false 1 (t 20)), s 22 (.mv (t 4)), s 23 (.iadr 1 (t 21) (t 22)), s 24 (.load false 1 (t 23)), s 25 (.call 49 [(t 19), (t 24)]), s 3 (.mv (t 25))]) .skip))) (.region false [s 11 (.mv (t 4)), s 12 (.bin .add (t 11) (.const (.int .i64 1))), s 4 (.mv (t 12))])))))) (.seq (.region false [s 26 (.mv (t 3)), s 2 (.mv (t 26))]) .ret))))
def sVarsOf.keep : List Nat := [0, 1, 2, 3, 4]
def sVarsOf.res : List RRes := [.tmp 2]
theorem sVarsOf.of {mo : Bool} {args : List AV} {r : AV} {frs : Fr} (hn : Nat.ble args.length Tryz.f29.ntmps = true) (h : aCode (Kn mo Tryz.prog) sVarsOf.keep 0 sVarsOf.code (doneK sVarsOf.res r frs) ⟨argEnv 0 args, [], []⟩) : Abs.Ret mo Tryz.prog 29 args r frs :=
  Abs.Ret.of_ir Tryz.func29 rfl (by kernel_rfl) (Nat.le_of_ble_eq_true hn) (by kernel_rfl) (by kernel_rfl) h
abbrev sVarsOf.Own (args : List AV) (x : Tr) : Prop := Abs.Own true Tryz.prog 29 args x
abbrev sVarsOf.Ret (args : List AV) (r : AV) (frs : Fr) : Prop := Abs.Ret true Tryz.prog 29 args r frs
def pVarsOf.code : ACode := (.seq (.region false [s 1 (.box (t 0)), s 2 (.mv (.const (.slice none 0 0)))]) (.seq (.region false [s 3 (.fadr 1 (t 1)), s 4 (.load false 1 (t 3)), s 5 (.call 82 [(t 4)]), s 2 (.mv (t 5))]) .ret))
def pVarsOf.keep : List Nat := [0, 1, 2]
def pVarsOf.res : List RRes := [.tmp 2]
theorem pVarsOf.of {mo : Bool} {args : List AV} {r : AV} {frs : Fr} (hn : Nat.ble args.length Tryz.f63.ntmps = true) (h : aCode (Kn mo Tryz.prog) pVarsOf.keep 0 pVarsOf.code (doneK pVarsOf.res r frs) ⟨argEnv 0 args, [], []⟩) : Abs.Ret mo Tryz.prog 63 args r frs :=
  Abs.Ret.of_ir Tryz.func63 rfl (by kernel_rfl) (Nat.le_of_ble_eq_true hn) (by kernel_rfl) (by kernel_rfl) h
abbrev pVarsOf.Own (args : List AV) (x : Tr) : Prop := Abs.Own true Tryz.prog 63 args x
abbrev pVarsOf.Ret (args : List AV) (r : AV) (frs : Fr) : Prop := Abs.Ret true Tryz.prog 63 args r frs
def pSamePattern.code : ACode := (.seq (.region false [s 2 (.box (t 0)), s 3 (.box (t 1)), s 4 (.mv (.const (.bool false)))]) (.seq (.region false [s 5 (.fadr 0 (t 2)), s 6 (.load false 1 (t 5)), s 7 (.fadr 0 (t 3)), s 8 (.load false 1 (t 7)), s 9 (.bin .eql (t 6) (t 8)), s 10 (.mv (t 9)), g 10 true 11 (.fadr 1 (t 2)), g 10 true 12 (.load false 1 (t 11)), g 10 true 13 (.fadr 1 (t 3)), g 10 true 14 (.load false 1 (t 13)), g 10 true 15 (.call 93 [(t 12), (t 14)]), s 16 (.and (t 10) (t 15)), s 4 (.mv (t 16))]) .ret))
def pSamePattern.keep : List Nat := [0, 1, 2, 3, 4]
def pSamePattern.res : List RRes := [.tmp 4]
theorem pSamePattern.of {mo : Bool} {args : List AV} {r : AV} {frs : Fr} (hn : Nat.ble args.length Tryz.f75.ntmps = true) (h : aCode (Kn mo Tryz.prog) pSamePattern.keep 0 pSamePattern.code (doneK pSamePattern.res r frs) ⟨argEnv 0 args, [], []⟩) : Abs.Ret mo Tryz.prog 75 args r frs :=
  Abs.Ret.of_ir Tryz.func75 rfl (by kernel_rfl) (Nat.le_of_ble_eq_true hn) (by kernel_rfl) (by kernel_rfl) h
abbrev pSamePattern.Ret (args : List AV) (r : AV) (frs : Fr) : Prop := Abs.Ret true Tryz.prog 75 args r frs
def pisTuple.code : ACode := (.seq (.region false [s 6 (.mv (.const (.bool false)))]) (.seq (.seq (.region false [s 9 (.mv (t 0)), s 10 (.call 33 [(t 9)]), s 11 (.not (t 10)), s 12 (.mv (t 11)), g 12 false 13 (.mv (t 1)), g 12 false 14 (.len false (t 13)), g 12 false 15 (.bin .gtr (t 14) (.const (.int .i64 3))), s 16 (.or (t 12) (t 15))]) (.cond (t 16) (.seq (.region false [s 6 (.mv (.const (.bool false)))]) .ret) .skip)) (.seq (.seq (.region false [s 17 (.mv (t 1)), s 18 (.len false (t 17)), s 19 (.mv (.const (.int .i64 0)))]) (.block 0 (.loop (.seq (.region false [s 20 (.bin .lss (t 19) (t 18))]) (.seq (.cond (t 20) .skip (.exit 0)) (.seq (.block 1 (.seq (.region false [s 21 (.iadr 1 (t 17) (t 19)), s 22 (.load false 1 (t 21)), s 8 (.mv (t 22))]) (.seq (.region false [s 23 (.mv (t 2)), s 24 (.mv (t 8)), s 25 (.callv (t 23) [(t 24)]), s 26 (.not (t 25))]) (.cond (t 26) (.seq (.region false [s 6 (.mv (.const (.bool false)))]) .ret) .skip)))) (.region false [s 27 (.bin .add (t 19) (.const (.int .i64 1))), s 19 (.mv (t 27))]))))))) (.seq (.region false [s 6 (.mv (.const (.bool true)))]) .ret))))
def pisTuple.keep : List Nat := [0, 1, 2, 6, 8, 17, 18, 19, 20]
def pisTuple.res : List RRes := [.tmp 6]
theorem pisTuple.of {mo : Bool} {args : List AV} {r : AV} {frs : Fr} (hn : Nat.ble args.length Tryz.f90.ntmps = true) (h : aCode (Kn mo Tryz.prog) pisTuple.keep 0 pisTuple.code (doneK pisTuple.res r frs) ⟨argEnv 0 args, [], []⟩) : Abs.Ret mo Tryz.prog 90 args r frs :=
  Abs.Ret.of_ir Tryz.func90 rfl (by kernel_rfl) (Nat.le_of_ble_eq_true hn) (by kernel_rfl) (by kernel_rfl) h
abbrev pisTuple.Ret (args : List AV) (r : AV) (frs : Fr) : Prop := Abs.Ret true Tryz.prog 90 args r frs
def sHasText.code : ACode := (.seq (.region false [s 4 (.mv (.const (.bool false)))]) (.seq (.seq (.region false [s 5 (.mv (.const (.int .i64 0)))]) (.block 0 (.loop (.seq (.seq (.region false [s 6 (.mv (t 5)), s 7 (.mv (t 0)), s 8 (.len false (t 7)), s 9 (.bin .lss (t 6) (t 8))]) (.cond (t 9) .skip (.exit 0))) (.seq (.block 1 (.seq (.region false [s 12 (.mv (t 0)), s 13 (.mv (t 5)), s 14 (.iadr 1 (t 12) (t 13)), s 15 (.load false 1 (t 14)), s 16 (.mv (t 1)), s 17 (.bin .eql (t 15) (t 16))]) (.cond (t 17) (.seq (.region false [s 4 (.mv (.const (.bool true)))]) .ret) .skip))) (.region false [s 10 (.mv (t 5)), s 11 (.bin .add (t 10) (.const (.int .i64 1))), s 5 (.mv (t 11))])))))) (.seq (.region false [s 4 (.mv (.const (.bool false)))]) .ret)))
def sHasText.keep : List Nat := [0, 1, 4, 5]
def sHasText.res : List RRes := [.tmp 4]
theorem sHasText.of {mo : Bool} {args : List AV} {r : AV} {frs : Fr} (hn : Nat.ble args.length Tryz.f25.ntmps = true) (h : aCode (Kn mo Tryz.prog) sHasText.keep 0 sHasText.code (doneK sHasText.res r frs) ⟨argEnv 0 args, [], []⟩) : Abs.Ret mo Tryz.prog 25 args r frs :=
  Abs.Ret.of_ir Tryz.func25 rfl (by kernel_rfl) (Nat.le_of_ble_eq_true hn) (by kernel_rfl) (by kernel_rfl) h
abbrev sHasText.Ret (args : List AV) (r : AV) (frs : Fr) : Prop := Abs.Ret true Tryz.prog 25 args r frs
def slContains.code : ACode := (.seq (.region false [s 4 (.mv (.const (.bool false)))]) (.seq (.region false [s 5 (.mv (t 0)), s 6 (.mv (t 1)), s 7 (.call 95 [(t 5), (t 6)]), s 8 (.bin .geq (t 7) (.const (.int .i64 0))), s 4 (.mv (t 8))]) .ret))
def slContains.keep : List Nat := [0, 1, 4]
def slContains.res : List RRes := [.tmp 4]
theorem slContains.of {mo : Bool} {args : List AV} {r : AV} {frs : Fr} (hn : Nat.ble args.length Tryz.f80.ntmps = true) (h : aCode (Kn mo Tryz.prog) slContains.keep 0 slContains.code (doneK slContains.res r frs) ⟨argEnv 0 args, [], []⟩) : Abs.Ret mo Tryz.prog 80 args r frs :=
  Abs.Ret.of_ir Tryz.func80 rfl (by kernel_rfl) (Nat.le_of_ble_eq_true hn) (by kernel_rfl) (by kernel_rfl) h
abbrev slContains.Ret (args : List AV) (r : AV) (frs : Fr) : Prop := Abs.Ret true Tryz.prog 80 args r frs
def slIndex.code : ACode := (.seq (.region false [s 4 (.mv (.const (.int .i64 0)))]) (.seq (.seq (.region false [s 6 (.mv (t 0)), s 7 (.len false (t 6)), s 8 (.mv (.const (.int .i64 0)))]) (.block 0 (.loop (.seq (.region false [s 9 (.bin .lss (t 8) (t 7))]) (.seq (.cond (t 9) .skip (.exit 0)) (.seq (.block 1 (.seq (.region false [s 10 (.mv (t 8)), s 5 (.mv (t 10))]) (.seq (.region false [s 11 (.mv (t 1)), s 12 (.mv (t 0)), s 13 (.mv (t 5)), s 14 (.iadr 1 (t 12) (t 13)), s 15 (.load false 1 (t 14)), s 16 (.bin .eql (t 11) (t 15))]) (.cond (t 16) (.seq (.region false [s 17 (.mv (t 5)), s 4 (.mv (t 17))]) .ret) .skip)))) (.region false [s 18 (.bin .add (t 8) (.const (.int .i64 1))), s 8 (.mv (t 18))]))))))) (.seq (.region false [s 4 (.mv (.const (.int .i64 (-1))))]) .ret)))
def slIndex.keep : List Nat := [0, 1, 4, 5, 7, 8, 9]
def slIndex.res : List RRes := [.tmp 4]
theorem slIndex.of {mo : Bool} {args : List AV} {r : AV} {frs : Fr} (hn : Nat.ble args.length Tryz.f95.ntmps = true) (h : aCode (Kn mo Tryz.prog) slIndex.keep 0 slIndex.code (doneK slIndex.res r frs) ⟨argEnv 0 args, [], []⟩) : Abs.Ret mo Tryz.prog 95 args r frs :=
  Abs.Ret.of_ir Tryz.func95 rfl (by kernel_rfl) (Nat.le_of_ble_eq_true hn) (by kernel_rfl) (by kernel_rfl) h
abbrev slIndex.Ret (args : List AV) (r : AV) (frs : Fr) : Prop := Abs.Ret true Tryz.prog 95 args r frs
end Go.Proofs.YtimcfgokocihnaaGreat
namespace Go.Proofs.YtimcfgokocihnaaGreat
open Abs
def termF (x : Str) : Bool := atomF x || varF x
theorem allQ_no {q : Str → Bool} {x : List Str} {i : Nat} (hi : i < x.length) (h : q (x.getD i []) = false) : x.all q = false := by
  rw [List.all_eq_false]
  refine ⟨x.getD i [], ?_, by rw [h]; simp⟩
  simp [List.getD, hi]
theorem allQ_succ {q : Str → Bool} {x : List Str} {i : Nat} (hi : i < x.length) (h : (x.take i).all q = true) (hc : q (x.getD i []) = true) : (x.take (i + 1)).all q = true := by
  rw [take_succ' [] hi, List.all_append, h]; simpa using hc
def tupF (q : Str → Bool) (f : Fct) : Bool := nameF f.1 && decide ((f.2.length : Int) ≤ 3) && f.2.all q
abbrev isPatF (f : VPattern) : Bool := tupF termF f
theorem pisTuple.ret (q : Str → Bool) (F : Nat) (hq : ∀ s : Str, s.length ≤ 1048576 → Abs.Ret true Tryz.prog F [.str s] (.val (.bool (q s))) []) (r : Str) (l : List Str) (h : r.length + listSize Ty.str l ≤ 1048576) (hl : l.length ≤ 1048576) :
    pisTuple.Ret [.str r, .list none (strs l), .clo F [] []] (.val (.bool (tupF q (r, l)))) [] := by
  refine pisTuple.of rfl ?_
  repeat' first
    | contradiction | exact trivial
    | (conv => whnf
       first | refine Need.mk (fun h => h) ?_ | refine Need.mk rfl ?_ | refine Need.mk ⟨rfl, Nat.le_of_ble_eq_true rfl⟩ ?_ | refine Need.mk (Nat.le_of_ble_eq_true rfl) ?_ | refine Need.fin ?_ | refine Need.mk ?_ ?_ | refine Ix.strsF rfl ?_ | refine Ix.strs rfl ?_ ?_ | refine Cut.strs rfl ?_ ?_ | refine Ix.mapF (fun _ => rfl) ?_ | refine Ix.map (fun _ => rfl) ?_ ?_ | refine Cut.map (fun _ => rfl) ?_ ?_ | refine Fork.yes (by assumption) ?_ | refine Fork.no (by assumption) ?_ | refine Fork.decYes (by omega) ?_ | refine Fork.decNo (by omega) ?_ | refine Fork.dec (fun _ => ?_) (fun _ => ?_) | refine Fork.bne (fun _ => ?_) (fun _ => ?_) | refine Fork.beq (fun _ => ?_) (fun _ => ?_) | refine Fork.seq (fun _ => ?_) (fun _ => ?_) | refine Fork.sne (fun _ => ?_) (fun _ => ?_) | refine Fork.neg (fun _ => ?_) (fun _ => ?_) | refine Fork.mk (fun _ => ?_) (fun _ => ?_) | refine HAlt.mk ?_ ?_ | apply HJoin.mk3 | exact HEnd.mk rfl rfl rfl | refine HEnd.mk ?_ ?_ ?_ | refine Round.mk ?_ | refine NilQ.mk (fun b hb => ?_) | refine forceK_of ?_ | refine forceBx_of ?_ | refine unG_old ?_ | refine unG_gv ?_ | refine Lit.read rfl ?_ | refine FinVal.keep ?_ | refine FinAgg.keep ?_ | refine Final.mk rfl rfl | refine Final.mk ?_ rfl | refine Final.mk ?_ ?_ | refine FinalT.mk ?_ ?_ | refine FinalC.allA ?_ | refine ACall.scalA _ _ (pIsName.ret _ ?_) rfl ?_ | refine AQCall.mkA _ _ (fun hg => pIsName.ret _ ?_) rfl ?_ | refine AGCall.mkA _ _ (fun hg => pIsName.ret _ ?_) rfl ?_)
    | refine AV.bool_congr ?_ | refine AV.int_congr ?_ | refine AV.str_congr ?_ | refine AV.list_congr ?_ | with_reducible rfl | refine fr1 ?_ | refine fr2 ?_ ?_
  · omega
  · rename_i h1
    simp only [length_strs] at h1
    unfold tupF
    cases hn : nameF r
    · simp
    · rw [hn] at h1
      have : ¬ (l.length : Int) ≤ 3 := by simp at h1; omega
      simp [this]
  rename_i h1
  simp only [length_strs] at h1
  have hn : nameF r = true := by revert h1; cases nameF r <;> simp
  have hl3 : (l.length : Int) ≤ 3 := by rw [hn] at h1; simp at h1; omega
  repeat' first
    | contradiction | exact trivial
    | (conv => whnf
       first | refine Need.mk (fun h => h) ?_ | refine Need.mk rfl ?_ | refine Need.mk ⟨rfl, Nat.le_of_ble_eq_true rfl⟩ ?_ | refine Need.mk (Nat.le_of_ble_eq_true rfl) ?_ | refine Need.fin ?_ | refine Need.mk ?_ ?_ | refine Ix.strsF rfl ?_ | refine Ix.strs rfl ?_ ?_ | refine Cut.strs rfl ?_ ?_ | refine Ix.mapF (fun _ => rfl) ?_ | refine Ix.map (fun _ => rfl) ?_ ?_ | refine Cut.map (fun _ => rfl) ?_ ?_ | refine Fork.yes (by assumption) ?_ | refine Fork.no (by assumption) ?_ | refine Fork.decYes (by omega) ?_ | refine Fork.decNo (by omega) ?_ | refine Fork.dec (fun _ => ?_) (fun _ => ?_) | refine Fork.bne (fun _ => ?_) (fun _ => ?_) | refine Fork.beq (fun _ => ?_) (fun _ => ?_) | refine Fork.seq (fun _ => ?_) (fun _ => ?_) | refine Fork.sne (fun _ => ?_) (fun _ => ?_) | refine Fork.neg (fun _ => ?_) (fun _ => ?_) | refine Fork.mk (fun _ => ?_) (fun _ => ?_) | refine HAlt.mk ?_ ?_ | apply HJoin.mk3 | exact HEnd.mk rfl rfl rfl | refine HEnd.mk ?_ ?_ ?_ | refine Round.mk ?_ | refine NilQ.mk (fun b hb => ?_) | refine forceK_of ?_ | refine forceBx_of ?_ | refine unG_old ?_ | refine unG_gv ?_ | refine Lit.read rfl ?_ | refine FinVal.keep ?_ | refine FinAgg.keep ?_ | refine Final.mk rfl rfl | refine Final.mk ?_ rfl | refine Final.mk ?_ ?_ | refine FinalT.mk ?_ ?_ | refine FinalC.allA ?_)
    | refine AV.bool_congr ?_ | refine AV.int_congr ?_ | refine AV.str_congr ?_ | refine AV.list_congr ?_ | with_reducible rfl | refine fr1 ?_ | refine fr2 ?_ ?_
  refine ALoop.mk Nat (fun i => ⟨[(0, .str r), (1, .list none (strs l)), (2, .clo F [] []), (17, .list none (strs l)), (18, .val (.int .i64 l.length)), (19, .val (.int .i64 i))], [], []⟩) (fun i => i ≤ l.length ∧ (l.take i).all q = true) (fun i => l.length - i) ⟨0, ⟨Nat.zero_le _, rfl⟩, ?_⟩ (fun i hi => ?_)
  · repeat' first
      | exact trivial | refine Weak.mk ?_ ?_ ?_ ?_ (Or.inl (Nat.le_of_ble_eq_true rfl)) | refine Weak.mk ?_ ?_ ?_ ?_ (Or.inr ⟨(by repeat' first | exact trivial | exact Nat.le_of_ble_eq_true rfl | refine And.intro ?_ ?_), (by repeat' first | exact trivial | exact Nat.le_of_ble_eq_true rfl | refine And.intro ?_ ?_)⟩) | refine Weak.mk ?_ ?_ ?_ ?_ ?_ | refine And.intro ?_ ?_ | with_reducible rfl | exact Nat.le_of_ble_eq_true rfl | refine fr1 ?_ | refine fr2 ?_ ?_ | refine AV.int_congr ?_ | refine AV.bool_congr ?_ | refine AV.str_congr ?_ | refine AV.list_congr ?_ | refine AV.bsl_congr ?_ ?_ | (apply rfl)
    simp
  repeat' first
    | contradiction | exact trivial
    | (conv => whnf
       first | refine Need.mk (fun h => h) ?_ | refine Need.mk rfl ?_ | refine Need.mk ⟨rfl, Nat.le_of_ble_eq_true rfl⟩ ?_ | refine Need.mk (Nat.le_of_ble_eq_true rfl) ?_ | refine Need.fin ?_ | refine Need.mk ?_ ?_ | refine Ix.strsF rfl ?_ | refine Ix.strs rfl ?_ ?_ | refine Cut.strs rfl ?_ ?_ | refine Ix.mapF (fun _ => rfl) ?_ | refine Ix.map (fun _ => rfl) ?_ ?_ | refine Cut.map (fun _ => rfl) ?_ ?_ | refine Fork.yes (by assumption) ?_ | refine Fork.no (by assumption) ?_ | refine Fork.decYes (by omega) ?_ | refine Fork.decNo (by omega) ?_ | refine Fork.dec (fun _ => ?_) (fun _ => ?_) | refine Fork.bne (fun _ => ?_) (fun _ => ?_) | refine Fork.beq (fun _ => ?_) (fun _ => ?_) | refine Fork.seq (fun _ => ?_) (fun _ => ?_) | refine Fork.sne (fun _ => ?_) (fun _ => ?_) | refine Fork.neg (fun _ => ?_) (fun _ => ?_) | refine Fork.mk (fun _ => ?_) (fun _ => ?_) | refine HAlt.mk ?_ ?_ | apply HJoin.mk3 | exact HEnd.mk rfl rfl rfl | refine HEnd.mk ?_ ?_ ?_ | refine Round.mk ?_ | refine NilQ.mk (fun b hb => ?_) | refine forceK_of ?_ | refine forceBx_of ?_ | refine unG_old ?_ | refine unG_gv ?_ | refine Lit.read rfl ?_ | refine FinVal.keep ?_ | refine FinAgg.keep ?_ | refine Final.mk rfl rfl | refine Final.mk ?_ rfl | refine Final.mk ?_ ?_ | refine FinalT.mk ?_ ?_ | refine FinalC.allA ?_ | refine ACall.scalA _ _ (hq _ ?_) rfl ?_ | refine AQCall.mkA _ _ (fun hg => hq _ ?_) rfl ?_ | refine AGCall.mkA _ _ (fun hg => hq _ ?_) rfl ?_)
    | refine AV.bool_congr ?_ | refine AV.int_congr ?_ | refine AV.str_congr ?_ | refine AV.list_congr ?_ | with_reducible rfl | refine fr1 ?_ | refine fr2 ?_ ?_
  all_goals try simp only [length_rows, length_strs, length_oldLL, List.length_map, Int.toNat_natCast] at *
  · have := str_le (l := l) (i := i) (by omega); omega
  · rename_i h1 h2
    simp [tupF, allQ_no (by omega) h2]
  · rename_i h1 h2
    refine ⟨i + 1, ⟨by omega, allQ_succ (by omega) hi.2 h2⟩, ?_, by omega⟩
    repeat' first
      | exact trivial | refine Weak.mk ?_ ?_ ?_ ?_ (Or.inl (Nat.le_of_ble_eq_true rfl)) | refine Weak.mk ?_ ?_ ?_ ?_ (Or.inr ⟨(by repeat' first | exact trivial | exact Nat.le_of_ble_eq_true rfl | refine And.intro ?_ ?_), (by repeat' first | exact trivial | exact Nat.le_of_ble_eq_true rfl | refine And.intro ?_ ?_)⟩) | refine Weak.mk ?_ ?_ ?_ ?_ ?_ | refine And.intro ?_ ?_ | with_reducible rfl | exact Nat.le_of_ble_eq_true rfl | refine fr1 ?_ | refine fr2 ?_ ?_ | refine AV.int_congr ?_ | refine AV.bool_congr ?_ | refine AV.str_congr ?_ | refine AV.list_congr ?_ | refine AV.bsl_congr ?_ ?_ | (apply rfl)
    rw [wrap64 (by omega) (by omega)]; rfl
  · have := hi.2
    rw [List.take_of_length_le (by omega)] at this
    simp [tupF, this, hn, hl3]
theorem pIsPattern.ret (f : VPattern) (h : tPattern.size f ≤ 1048576) : pIsPattern.Ret [.agg (oldL (tPattern.q f))] (.val (.bool (isPatF f))) [] := by
  refine pIsPattern.of rfl ?_
  have h : tFct.size f ≤ 1048576 := h
  rw [tFct_size, tStrs_size] at h
  have ht : pisTuple.Ret [.str f.1, .list none (strs f.2), .clo 91 [] []] (.val (.bool (isPatF f))) [] := pisTuple.ret termF _ (fun s hs => pIsTerm.ret s hs) f.1 f.2 (by omega) (by omega)
  repeat' first
    | contradiction | exact trivial
    | (conv => whnf
       first | refine Need.mk (fun h => h) ?_ | refine Need.mk rfl ?_ | refine Need.mk ⟨rfl, Nat.le_of_ble_eq_true rfl⟩ ?_ | refine Need.mk (Nat.le_of_ble_eq_true rfl) ?_ | refine Need.fin ?_ | refine Need.mk ?_ ?_ | refine Ix.strsF rfl ?_ | refine Ix.strs rfl ?_ ?_ | refine Cut.strs rfl ?_ ?_ | refine Ix.mapF (fun _ => rfl) ?_ | refine Ix.map (fun _ => rfl) ?_ ?_ | refine Cut.map (fun _ => rfl) ?_ ?_ | refine Fork.yes (by assumption) ?_ | refine Fork.no (by assumption) ?_ | refine Fork.decYes (by omega) ?_ | refine Fork.decNo (by omega) ?_ | refine Fork.dec (fun _ => ?_) (fun _ => ?_) | refine Fork.bne (fun _ => ?_) (fun _ => ?_) | refine Fork.beq (fun _ => ?_) (fun _ => ?_) | refine Fork.seq (fun _ => ?_) (fun _ => ?_) | refine Fork.sne (fun _ => ?_) (fun _ => ?_) | refine Fork.neg (fun _ => ?_) (fun _ => ?_) | refine Fork.mk (fun _ => ?_) (fun _ => ?_) | refine HAlt.mk ?_ ?_ | apply HJoin.mk3 | exact HEnd.mk rfl rfl rfl | refine HEnd.mk ?_ ?_ ?_ | refine Round.mk ?_ | refine NilQ.mk (fun b hb => ?_) | refine forceK_of ?_ | refine forceBx_of ?_ | refine unG_old ?_ | refine unG_gv ?_ | refine Lit.read rfl ?_ | refine FinVal.keep ?_ | refine FinAgg.keep ?_ | refine Final.mk rfl rfl | refine Final.mk ?_ rfl | refine Final.mk ?_ ?_ | refine FinalT.mk ?_ ?_ | refine FinalC.allA ?_ | refine ACall.scalA _ _ (ht) rfl ?_ | refine AQCall.mkA _ _ (fun hg => ht) rfl ?_ | refine AGCall.mkA _ _ (fun hg => ht) rfl ?_)
    | refine AV.bool_congr ?_ | refine AV.int_congr ?_ | refine AV.str_congr ?_ | refine AV.list_congr ?_ | with_reducible rfl | refine fr1 ?_ | refine fr2 ?_ ?_
theorem sIsPattern.ret (f : VPattern) (h : tPattern.size f ≤ 1048576) : sIsPattern.Ret [.agg (oldL (tPattern.q f))] (.val (.bool (isPatF f))) [] := by
  refine sIsPattern.of rfl ?_
  have h : tFct.size f ≤ 1048576 := h
  rw [tFct_size, tStrs_size] at h
  repeat' first
    | contradiction | exact trivial
    | (conv => whnf
       first | refine Need.mk (fun h => h) ?_ | refine Need.mk rfl ?_ | refine Need.mk ⟨rfl, Nat.le_of_ble_eq_true rfl⟩ ?_ | refine Need.mk (Nat.le_of_ble_eq_true rfl) ?_ | refine Need.fin ?_ | refine Need.mk ?_ ?_ | refine Ix.strsF rfl ?_ | refine Ix.strs rfl ?_ ?_ | refine Cut.strs rfl ?_ ?_ | refine Ix.mapF (fun _ => rfl) ?_ | refine Ix.map (fun _ => rfl) ?_ ?_ | refine Cut.map (fun _ => rfl) ?_ ?_ | refine Fork.yes (by assumption) ?_ | refine Fork.no (by assumption) ?_ | refine Fork.decYes (by omega) ?_ | refine Fork.decNo (by omega) ?_ | refine Fork.dec (fun _ => ?_) (fun _ => ?_) | refine Fork.bne (fun _ => ?_) (fun _ => ?_) | refine Fork.beq (fun _ => ?_) (fun _ => ?_) | refine Fork.seq (fun _ => ?_) (fun _ => ?_) | refine Fork.sne (fun _ => ?_) (fun _ => ?_) | refine Fork.neg (fun _ => ?_) (fun _ => ?_) | refine Fork.mk (fun _ => ?_) (fun _ => ?_) | refine HAlt.mk ?_ ?_ | apply HJoin.mk3 | exact HEnd.mk rfl rfl rfl | refine HEnd.mk ?_ ?_ ?_ | refine Round.mk ?_ | refine NilQ.mk (fun b hb => ?_) | refine forceK_of ?_ | refine forceBx_of ?_ | refine unG_old ?_ | refine unG_gv ?_ | refine Lit.read rfl ?_ | refine FinVal.keep ?_ | refine FinAgg.keep ?_ | refine Final.mk rfl rfl | refine Final.mk ?_ rfl | refine Final.mk ?_ ?_ | refine FinalT.mk ?_ ?_ | refine FinalC.allA ?_)
    | refine AV.bool_congr ?_ | refine AV.int_congr ?_ | refine AV.str_congr ?_ | refine AV.list_congr ?_ | with_reducible rfl | refine fr1 ?_ | refine fr2 ?_ ?_
  refine ALoop.mk Nat (fun i => ⟨[(1, .bptr 0 0), (3, .val (.int .i64 i))], [.cells .var (oldL (tPattern.q f))], []⟩) (fun i => i ≤ f.2.length ∧ (f.2.take i).all termF = true) (fun i => f.2.length - i) ⟨0, ⟨Nat.zero_le _, rfl⟩, ?_⟩ (fun i hi => ?_)
  · repeat' first
      | exact trivial | refine Weak.mk ?_ ?_ ?_ ?_ (Or.inl (Nat.le_of_ble_eq_true rfl)) | refine Weak.mk ?_ ?_ ?_ ?_ (Or.inr ⟨(by repeat' first | exact trivial | exact Nat.le_of_ble_eq_true rfl | refine And.intro ?_ ?_), (by repeat' first | exact trivial | exact Nat.le_of_ble_eq_true rfl | refine And.intro ?_ ?_)⟩) | refine Weak.mk ?_ ?_ ?_ ?_ ?_ | refine And.intro ?_ ?_ | with_reducible rfl | exact Nat.le_of_ble_eq_true rfl | refine fr1 ?_ | refine fr2 ?_ ?_ | refine AV.int_congr ?_ | refine AV.bool_congr ?_ | refine AV.str_congr ?_ | refine AV.list_congr ?_ | refine AV.bsl_congr ?_ ?_ | (apply rfl)
  repeat' first
    | contradiction | exact trivial
    | (conv => whnf
       first | refine Need.mk (fun h => h) ?_ | refine Need.mk rfl ?_ | refine Need.mk ⟨rfl, Nat.le_of_ble_eq_true rfl⟩ ?_ | refine Need.mk (Nat.le_of_ble_eq_true rfl) ?_ | refine Need.fin ?_ | refine Need.mk ?_ ?_ | refine Ix.strsF rfl ?_ | refine Ix.strs rfl ?_ ?_ | refine Cut.strs rfl ?_ ?_ | refine Ix.mapF (fun _ => rfl) ?_ | refine Ix.map (fun _ => rfl) ?_ ?_ | refine Cut.map (fun _ => rfl) ?_ ?_ | refine Fork.yes (by assumption) ?_ | refine Fork.no (by assumption) ?_ | refine Fork.decYes (by omega) ?_ | refine Fork.decNo (by omega) ?_ | refine Fork.dec (fun _ => ?_) (fun _ => ?_) | refine Fork.bne (fun _ => ?_) (fun _ => ?_) | refine Fork.beq (fun _ => ?_) (fun _ => ?_) | refine Fork.seq (fun _ => ?_) (fun _ => ?_) | refine Fork.sne (fun _ => ?_) (fun _ => ?_) | refine Fork.neg (fun _ => ?_) (fun _ => ?_) | refine Fork.mk (fun _ => ?_) (fun _ => ?_) | refine HAlt.mk ?_ ?_ | apply HJoin.mk3 | exact HEnd.mk rfl rfl rfl | refine HEnd.mk ?_ ?_ ?_ | refine Round.mk ?_ | refine NilQ.mk (fun b hb => ?_) | refine forceK_of ?_ | refine forceBx_of ?_ | refine unG_old ?_ | refine unG_gv ?_ | refine Lit.read rfl ?_ | refine FinVal.keep ?_ | refine FinAgg.keep ?_ | refine Final.mk rfl rfl | refine Final.mk ?_ rfl | refine Final.mk ?_ ?_ | refine FinalT.mk ?_ ?_ | refine FinalC.allA ?_ | refine ACall.scalA _ _ (sIsTerm.ret _ ?_) rfl ?_ | refine AQCall.mkA _ _ (fun hg => sIsTerm.ret _ ?_) rfl ?_ | refine AGCall.mkA _ _ (fun hg => sIsTerm.ret _ ?_) rfl ?_ | refine ACall.scalA _ _ (sIsName.ret _ ?_) rfl ?_ | refine AQCall.mkA _ _ (fun hg => sIsName.ret _ ?_) rfl ?_ | refine AGCall.mkA _ _ (fun hg => sIsName.ret _ ?_) rfl ?_)
    | refine AV.bool_congr ?_ | refine AV.int_congr ?_ | refine AV.str_congr ?_ | refine AV.list_congr ?_ | with_reducible rfl | refine fr1 ?_ | refine fr2 ?_ ?_
  all_goals try simp only [length_rows, length_strs, length_oldLL, List.length_map, Int.toNat_natCast] at *
  · have := str_le (l := f.2) (i := i) (by omega); omega
  · rename_i h2 h1
    have h2 : termF (f.2.getD i []) = false := h2
    simp [tupF, allQ_no (by omega) h2]
  · rename_i h2 h1
    refine ⟨i + 1, ⟨by omega, allQ_succ (by omega) hi.2 h2⟩, ?_, by omega⟩
    repeat' first
      | exact trivial | refine Weak.mk ?_ ?_ ?_ ?_ (Or.inl (Nat.le_of_ble_eq_true rfl)) | refine Weak.mk ?_ ?_ ?_ ?_ (Or.inr ⟨(by repeat' first | exact trivial | exact Nat.le_of_ble_eq_true rfl | refine And.intro ?_ ?_), (by repeat' first | exact trivial | exact Nat.le_of_ble_eq_true rfl | refine And.intro ?_ ?_)⟩) | refine Weak.mk ?_ ?_ ?_ ?_ ?_ | refine And.intro ?_ ?_ | with_reducible rfl | exact Nat.le_of_ble_eq_true rfl | refine fr1 ?_ | refine fr2 ?_ ?_ | refine AV.int_congr ?_ | refine AV.bool_congr ?_ | refine AV.str_congr ?_ | refine AV.list_congr ?_ | refine AV.bsl_congr ?_ ?_ | (apply rfl)
    rw [wrap64 (by omega) (by omega)]; rfl
  · omega
  · have := hi.2
    rw [List.take_of_length_le (by omega)] at this
    simp [tupF, this]
end Go.Proofs.YtimcfgokocihnaaGreat
namespace Go.Proofs.YtimcfgokocihnaaGreat
open Abs
theorem slEqual.ret (l m : List Str) (hl : l.length ≤ 1099511627776) : slEqual.Ret [.list none (strs l), .list none (strs m)] (.val (.bool (decide (l = m)))) [] := by
  refine slEqual.of rfl ?_
  repeat' first
    | contradiction | exact trivial
    | (conv => whnf
       first | refine Need.mk (fun h => h) ?_ | refine Need.mk rfl ?_ | refine Need.mk ⟨rfl, Nat.le_of_ble_eq_true rfl⟩ ?_ | refine Need.mk (Nat.le_of_ble_eq_true rfl) ?_ | refine Need.fin ?_ | refine Need.mk ?_ ?_ | refine Ix.strsF rfl ?_ | refine Ix.strs rfl ?_ ?_ | refine Cut.strs rfl ?_ ?_ | refine Ix.mapF (fun _ => rfl) ?_ | refine Ix.map (fun _ => rfl) ?_ ?_ | refine Cut.map (fun _ => rfl) ?_ ?_ | refine Fork.yes (by assumption) ?_ | refine Fork.no (by assumption) ?_ | refine Fork.decYes (by omega) ?_ | refine Fork.decNo (by omega) ?_ | refine Fork.dec (fun _ => ?_) (fun _ => ?_) | refine Fork.bne (fun _ => ?_) (fun _ => ?_) | refine Fork.beq (fun _ => ?_) (fun _ => ?_) | refine Fork.seq (fun _ => ?_) (fun _ => ?_) | refine Fork.sne (fun _ => ?_) (fun _ => ?_) | refine Fork.neg (fun _ => ?_) (fun _ => ?_) | refine Fork.mk (fun _ => ?_) (fun _ => ?_) | refine HAlt.mk ?_ ?_ | apply HJoin.mk3 | exact HEnd.mk rfl rfl rfl | refine HEnd.mk ?_ ?_ ?_ | refine Round.mk ?_ | refine NilQ.mk (fun b hb => ?_) | refine forceK_of ?_ | refine forceBx_of ?_ | refine unG_old ?_ | refine unG_gv ?_ | refine Lit.read rfl ?_ | refine FinVal.keep ?_ | refine FinAgg.keep ?_ | refine Final.mk rfl rfl | refine Final.mk ?_ rfl | refine Final.mk ?_ ?_ | refine FinalT.mk ?_ ?_ | refine FinalC.allA ?_)
    | refine AV.bool_congr ?_ | refine AV.int_congr ?_ | refine AV.str_congr ?_ | refine AV.list_congr ?_ | with_reducible rfl | refine fr1 ?_ | refine fr2 ?_ ?_
  · rename_i h
    rw [length_strs, length_strs] at h
    have h3 : ¬ l = m := fun e => h (by rw [e])
    simp [h3]
  rename_i h
  rw [length_strs, length_strs] at h
  have h : l.length = m.length := by omega
  repeat' first
    | contradiction | exact trivial
    | (conv => whnf
       first | refine Need.mk (fun h => h) ?_ | refine Need.mk rfl ?_ | refine Need.mk ⟨rfl, Nat.le_of_ble_eq_true rfl⟩ ?_ | refine Need.mk (Nat.le_of_ble_eq_true rfl) ?_ | refine Need.fin ?_ | refine Need.mk ?_ ?_ | refine Ix.strsF rfl ?_ | refine Ix.strs rfl ?_ ?_ | refine Cut.strs rfl ?_ ?_ | refine Ix.mapF (fun _ => rfl) ?_ | refine Ix.map (fun _ => rfl) ?_ ?_ | refine Cut.map (fun _ => rfl) ?_ ?_ | refine Fork.yes (by assumption) ?_ | refine Fork.no (by assumption) ?_ | refine Fork.decYes (by omega) ?_ | refine Fork.decNo (by omega) ?_ | refine Fork.dec (fun _ => ?_) (fun _ => ?_) | refine Fork.bne (fun _ => ?_) (fun _ => ?_) | refine Fork.beq (fun _ => ?_) (fun _ => ?_) | refine Fork.seq (fun _ => ?_) (fun _ => ?_) | refine Fork.sne (fun _ => ?_) (fun _ => ?_) | refine Fork.neg (fun _ => ?_) (fun _ => ?_) | refine Fork.mk (fun _ => ?_) (fun _ => ?_) | refine HAlt.mk ?_ ?_ | apply HJoin.mk3 | exact HEnd.mk rfl rfl rfl | refine HEnd.mk ?_ ?_ ?_ | refine Round.mk ?_ | refine NilQ.mk (fun b hb => ?_) | refine forceK_of ?_ | refine forceBx_of ?_ | refine unG_old ?_ | refine unG_gv ?_ | refine Lit.read rfl ?_ | refine FinVal.keep ?_ | refine FinAgg.keep ?_ | refine Final.mk rfl rfl | refine Final.mk ?_ rfl | refine Final.mk ?_ ?_ | refine FinalT.mk ?_ ?_ | refine FinalC.allA ?_)
    | refine AV.bool_congr ?_ | refine AV.int_congr ?_ | refine AV.str_congr ?_ | refine AV.list_congr ?_ | with_reducible rfl | refine fr1 ?_ | refine fr2 ?_ ?_
  refine ALoop.mk Nat (fun i => ⟨[(0, .list none (strs l)), (1, .list none (strs m)), (12, .val (.int .i64 l.length)), (13, .val (.int .i64 i))], [], []⟩) (fun i => i ≤ l.length ∧ l.take i = m.take i) (fun i => l.length - i) ⟨0, ⟨Nat.zero_le _, rfl⟩, ?_⟩ (fun i hi => ?_)
  · repeat' first
      | exact trivial | refine Weak.mk ?_ ?_ ?_ ?_ (Or.inl (Nat.le_of_ble_eq_true rfl)) | refine Weak.mk ?_ ?_ ?_ ?_ (Or.inr ⟨(by repeat' first | exact trivial | exact Nat.le_of_ble_eq_true rfl | refine And.intro ?_ ?_), (by repeat' first | exact trivial | exact Nat.le_of_ble_eq_true rfl | refine And.intro ?_ ?_)⟩) | refine Weak.mk ?_ ?_ ?_ ?_ ?_ | refine And.intro ?_ ?_ | with_reducible rfl | exact Nat.le_of_ble_eq_true rfl | refine fr1 ?_ | refine fr2 ?_ ?_ | refine AV.int_congr ?_ | refine AV.bool_congr ?_ | refine AV.str_congr ?_ | refine AV.list_congr ?_ | refine AV.bsl_congr ?_ ?_ | (apply rfl)
    simp
  repeat' first
    | contradiction | exact trivial
    | (conv => whnf
       first | refine Need.mk (fun h => h) ?_ | refine Need.mk rfl ?_ | refine Need.mk ⟨rfl, Nat.le_of_ble_eq_true rfl⟩ ?_ | refine Need.mk (Nat.le_of_ble_eq_true rfl) ?_ | refine Need.fin ?_ | refine Need.mk ?_ ?_ | refine Ix.strsF rfl ?_ | refine Ix.strs rfl ?_ ?_ | refine Cut.strs rfl ?_ ?_ | refine Ix.mapF (fun _ => rfl) ?_ | refine Ix.map (fun _ => rfl) ?_ ?_ | refine Cut.map (fun _ => rfl) ?_ ?_ | refine Fork.yes (by assumption) ?_ | refine Fork.no (by assumption) ?_ | refine Fork.decYes (by omega) ?_ | refine Fork.decNo (by omega) ?_ | refine Fork.dec (fun _ => ?_) (fun _ => ?_) | refine Fork.bne (fun _ => ?_) (fun _ => ?_) | refine Fork.beq (fun _ => ?_) (fun _ => ?_) | refine Fork.seq (fun _ => ?_) (fun _ => ?_) | refine Fork.sne (fun _ => ?_) (fun _ => ?_) | refine Fork.neg (fun _ => ?_) (fun _ => ?_) | refine Fork.mk (fun _ => ?_) (fun _ => ?_) | refine HAlt.mk ?_ ?_ | apply HJoin.mk3 | exact HEnd.mk rfl rfl rfl | refine HEnd.mk ?_ ?_ ?_ | refine Round.mk ?_ | refine NilQ.mk (fun b hb => ?_) | refine forceK_of ?_ | refine forceBx_of ?_ | refine unG_old ?_ | refine unG_gv ?_ | refine Lit.read rfl ?_ | refine FinVal.keep ?_ | refine FinAgg.keep ?_ | refine Final.mk rfl rfl | refine Final.mk ?_ rfl | refine Final.mk ?_ ?_ | refine FinalT.mk ?_ ?_ | refine FinalC.allA ?_)
    | refine AV.bool_congr ?_ | refine AV.int_congr ?_ | refine AV.str_congr ?_ | refine AV.list_congr ?_ | with_reducible rfl | refine fr1 ?_ | refine fr2 ?_ ?_
  · rename_i h1 h2
    have h3 : ¬ l = m := fun e => h2 (by rw [e])
    simp [h3]
  · rename_i h1 h2
    refine ⟨i + 1, ⟨by omega, ?_⟩, ?_, by omega⟩
    · rw [take_succ' [] (by omega), take_succ' (l := m) [] (by omega), hi.2]
      rw [Int.toNat_natCast] at h2
      have h2' : l.getD i [] = m.getD i [] := h2
      rw [h2']
    · repeat' first
        | exact trivial | refine Weak.mk ?_ ?_ ?_ ?_ (Or.inl (Nat.le_of_ble_eq_true rfl)) | refine Weak.mk ?_ ?_ ?_ ?_ (Or.inr ⟨(by repeat' first | exact trivial | exact Nat.le_of_ble_eq_true rfl | refine And.intro ?_ ?_), (by repeat' first | exact trivial | exact Nat.le_of_ble_eq_true rfl | refine And.intro ?_ ?_)⟩) | refine Weak.mk ?_ ?_ ?_ ?_ ?_ | refine And.intro ?_ ?_ | with_reducible rfl | exact Nat.le_of_ble_eq_true rfl | refine fr1 ?_ | refine fr2 ?_ ?_ | refine AV.int_congr ?_ | refine AV.bool_congr ?_ | refine AV.str_congr ?_ | refine AV.list_congr ?_ | refine AV.bsl_congr ?_ ?_ | (apply rfl)
      rw [wrap64 (by omega) (by omega)]; rfl
  · rename_i h1
    have h2 := hi.2
    rw [List.take_of_length_le (by omega), List.take_of_length_le (by omega)] at h2
    simp [h2]
end Go.Proofs.YtimcfgokocihnaaGreat
namespace Go.Proofs.YtimcfgokocihnaaGreat
namespace Abs
variable {α : Type}
theorem rows_cut (T : Ty α) (l : List α) : ∀ c ∈ rows T l, c.length = T.sz := oldLL_sz T.hq
end Abs
end Go.Proofs.YtimcfgokocihnaaGreat
namespace Go.Proofs.YtimcfgokocihnaaGreat
open Abs
theorem pSamePattern.ret (f g : VPattern) (h : tPattern.size f ≤ 1048576) : pSamePattern.Ret [.agg (oldL (tPattern.q f)), .agg (oldL (tPattern.q g))] (.val (.bool (decide (f = g)))) [] := by
  refine pSamePattern.of rfl ?_
  have h : tFct.size f ≤ 1048576 := h
  rw [tFct_size, tStrs_size] at h
  repeat' first
    | contradiction | exact trivial
    | (conv => whnf
       first | refine Need.mk (fun h => h) ?_ | refine Need.mk rfl ?_ | refine Need.mk ⟨rfl, Nat.le_of_ble_eq_true rfl⟩ ?_ | refine Need.mk (Nat.le_of_ble_eq_true rfl) ?_ | refine Need.fin ?_ | refine Need.mk ?_ ?_ | refine Ix.strsF rfl ?_ | refine Ix.strs rfl ?_ ?_ | refine Cut.strs rfl ?_ ?_ | refine Ix.mapF (fun _ => rfl) ?_ | refine Ix.map (fun _ => rfl) ?_ ?_ | refine Cut.map (fun _ => rfl) ?_ ?_ | refine Fork.yes (by assumption) ?_ | refine Fork.no (by assumption) ?_ | refine Fork.decYes (by omega) ?_ | refine Fork.decNo (by omega) ?_ | refine Fork.dec (fun _ => ?_) (fun _ => ?_) | refine Fork.bne (fun _ => ?_) (fun _ => ?_) | refine Fork.beq (fun _ => ?_) (fun _ => ?_) | refine Fork.seq (fun _ => ?_) (fun _ => ?_) | refine Fork.sne (fun _ => ?_) (fun _ => ?_) | refine Fork.neg (fun _ => ?_) (fun _ => ?_) | refine Fork.mk (fun _ => ?_) (fun _ => ?_) | refine HAlt.mk ?_ ?_ | apply HJoin.mk3 | exact HEnd.mk rfl rfl rfl | refine HEnd.mk ?_ ?_ ?_ | refine Round.mk ?_ | refine NilQ.mk (fun b hb => ?_) | refine forceK_of ?_ | refine forceBx_of ?_ | refine unG_old ?_ | refine unG_gv ?_ | refine Lit.read rfl ?_ | refine FinVal.keep ?_ | refine FinAgg.keep ?_ | refine Final.mk rfl rfl | refine Final.mk ?_ rfl | refine Final.mk ?_ ?_ | refine FinalT.mk ?_ ?_ | refine FinalC.allA ?_ | refine ACall.scalA _ _ (slEqual.ret _ _ ?_) rfl ?_ | refine AQCall.mkA _ _ (fun hg => slEqual.ret _ _ ?_) rfl ?_ | refine AGCall.mkA _ _ (fun hg => slEqual.ret _ _ ?_) rfl ?_)
    | refine AV.bool_congr ?_ | refine AV.int_congr ?_ | refine AV.str_congr ?_ | refine AV.list_congr ?_ | with_reducible rfl | refine fr1 ?_ | refine fr2 ?_ ?_
  · omega
  · obtain ⟨r, l⟩ := f; obtain ⟨r', l'⟩ := g
    rw [Bool.eq_iff_iff]; simp
end Go.Proofs.YtimcfgokocihnaaGreat
namespace Go.Proofs.YtimcfgokocihnaaGreat
open Abs
theorem slClone.ret (l : List Str) (h : l.length ≤ 1048576) : slClone.Ret [.list none (strs l)] (.list (some 0) (strs l)) [(9, 1, l.length)] := by
  refine slClone.of rfl ?_
  repeat' first
    | contradiction | exact trivial
    | (conv => whnf
       first | refine Need.mk (fun h => h) ?_ | refine Need.mk rfl ?_ | refine Need.mk ⟨rfl, Nat.le_of_ble_eq_true rfl⟩ ?_ | refine Need.mk (Nat.le_of_ble_eq_true rfl) ?_ | refine Need.fin ?_ | refine Need.mk ?_ ?_ | refine Ix.strsF rfl ?_ | refine Ix.strs rfl ?_ ?_ | refine Cut.strs rfl ?_ ?_ | refine Ix.mapF (fun _ => rfl) ?_ | refine Ix.map (fun _ => rfl) ?_ ?_ | refine Cut.map (fun _ => rfl) ?_ ?_ | refine Fork.yes (by assumption) ?_ | refine Fork.no (by assumption) ?_ | refine Fork.decYes (by omega) ?_ | refine Fork.decNo (by omega) ?_ | refine Fork.dec (fun _ => ?_) (fun _ => ?_) | refine Fork.bne (fun _ => ?_) (fun _ => ?_) | refine Fork.beq (fun _ => ?_) (fun _ => ?_) | refine Fork.seq (fun _ => ?_) (fun _ => ?_) | refine Fork.sne (fun _ => ?_) (fun _ => ?_) | refine Fork.neg (fun _ => ?_) (fun _ => ?_) | refine Fork.mk (fun _ => ?_) (fun _ => ?_) | refine HAlt.mk ?_ ?_ | apply HJoin.mk3 | exact HEnd.mk rfl rfl rfl | refine HEnd.mk ?_ ?_ ?_ | refine Round.mk ?_ | refine NilQ.mk (fun b hb => ?_) | refine forceK_of ?_ | refine forceBx_of ?_ | refine unG_old ?_ | refine unG_gv ?_ | refine Lit.read rfl ?_ | refine FinVal.nil 9 1 rfl ?_ | refine FinVal.keep ?_ | refine FinAgg.keep ?_ | refine Final.mk rfl rfl | refine Final.mk ?_ rfl | refine Final.mk ?_ ?_ | refine FinalT.mk ?_ ?_ | refine FinalC.allA ?_)
    | refine AV.bool_congr ?_ | refine AV.int_congr ?_ | refine AV.str_congr ?_ | refine AV.list_congr ?_ | with_reducible rfl | refine fr1 ?_ | refine fr2 ?_ ?_
  · rename_i h1
    have hl : l = [] := List.eq_nil_of_length_eq_zero (by rw [length_strs] at hb; exact hb (by revert h1; cases b <;> simp))
    subst hl; rfl
  · rename_i h1
    have hl : l = [] := List.eq_nil_of_length_eq_zero (by rw [length_strs] at hb; exact hb (by revert h1; cases b <;> simp))
    subst hl; rfl
  · exact strs_sz l
  · simp; omega
  · rfl
  · simp
end Go.Proofs.YtimcfgokocihnaaGreat
namespace Go.Proofs.YtimcfgokocihnaaGreat
namespace Abs
variable {mo : Bool}
open Go.RowKit Go.Sort
theorem heap_putRow {α : Type} [Inhabited α] (enc : α → Value) (w : World) (blk off : Nat) (d : Array α) (c : Array Value) (t : TypeId) (z : Nat × Nat) (h : w.heap[blk]? = some (.cells c t z)) :
    (putRow enc w blk off d).heap[blk]? = some (.cells (putCells enc off d c) t z) := by
  simp [putRow, mapBlock, Array.getElem?_modify, h, onCells]
theorem heap_putRow_other {α : Type} [Inhabited α] (enc : α → Value) (w : World) (blk off : Nat) (d : Array α) (k : Nat) (h : k ≠ blk) : (putRow enc w blk off d).heap[k]? = w.heap[k]? := by
  simp [putRow, mapBlock, Array.getElem?_modify, Ne.symm h]
theorem heap_grow (w : World) (os : Array Obj) (k : Nat) (h : k < w.heap.size) : (grow w os).heap[k]? = w.heap[k]? := by
  simp [grow, Array.getElem?_append, h]
/-- a row that is lent has been turned; nothing else has -/
theorem gpost_row {w w' : World} {F : Nat → Nat} {box0 : List BId} {b0 : List ABox} {Φ : AV → List ABox → Prop} (hout : ∀ b, w.heap.size ≤ b → F b = 0) (hbl : box0.length = b0.length)
    (hbi : ∀ (j b c : Nat), box0[j]? = some (.blk b c) → b < w.heap.size ∧ (live b0 j → F b = 0))
    (hbj : ∀ (i j b c c' : Nat), box0[i]? = some (.blk b c) → box0[j]? = some (.blk b c') → live b0 i → live b0 j → i = j)
    (hB : BoxesOk w.heap.size w F [] [] box0 b0) {j blk cap : Nat} {k : RK} {cs cs' : List AV} (hj : box0[j]? = some (.blk blk cap)) (hl : b0[j]? = some (.cells k cs))
    (hdr : w.drawn ≤ w'.drawn) (hos : w'.os = w.os) (htape : w'.tape = w.tape) (hou : w'.output = w.output) (hsz : w.heap.size ≤ w'.heap.size) (hk : ∀ k, k < w.heap.size → k ≠ blk → w'.heap[k]? = w.heap[k]?)
    (hx : (∀ y v, Rep w.heap.size w F [] [] box0 y v → Rep w.heap.size w' F [] [] box0 y v) → BoxOk w.heap.size w' F [] [] box0 (.blk blk cap) (.cells k cs'))
    {e : Ending} {v : Value} {r : AV} (hv : e = .returned v) (hr : Rep w.heap.size w' F [] [] box0 r v) (hΦ : Φ r (b0.set j (.cells k cs'))) :
    ∃ (v : Value) (F' : Nat → Nat) (box1 : List BId) (r : AV) (b1 : List ABox), Φ r b1 ∧ e = .returned v ∧ Keep mo (mask b0 box0) w w' ∧ (∀ b, b < w.heap.size → F' b = F b) ∧ (∀ b, w'.heap.size ≤ b → F' b = 0) ∧
      (∀ (j : Nat) d, box0[j]? = some d → box1[j]? = some d) ∧ box1.length = b1.length ∧
      (∀ (j b c : Nat), box0.length ≤ j → box1[j]? = some (.blk b c) → (w.heap.size ≤ b ∨ ∃ i : Nat, live b0 i ∧ box0[i]? = some (.blk b c)) ∧ b < w'.heap.size) ∧
      (∀ (j b c : Nat), box1[j]? = some (.blk b c) → live b1 j → (box0.length ≤ j ∨ live b0 j) → F' b = 0) ∧
      (∀ (i j b c c' : Nat), box1[i]? = some (.blk b c) → box1[j]? = some (.blk b c') → live b1 i → live b1 j → (box0.length ≤ i ∨ live b0 i) → (box0.length ≤ j ∨ live b0 j) → i = j) ∧
      (∀ (j : Nat) d x, box1[j]? = some d → b1[j]? = some x → (box0.length ≤ j ∨ live b0 j) → BoxOk w.heap.size w' F' [] [] box1 d x) ∧ Rep w.heap.size w' F' [] [] box1 r v := by
  have hlive : live b0 j := fun h => by rw [hl] at h; cases h
  have hF0 := (hbi j blk cap hj).2 hlive
  have hjl := getElem?_lt hl
  have L : Later w F [] [] w' F [] [] := by
    refine ⟨fun b i hi => World.cell?_of_block (w := w) (hk b ?_ (fun h => by rw [h, hF0] at hi; omega)), fun _ => Nat.le_refl _, fun k t s n h => by simp at h⟩
    rcases Nat.lt_or_ge b w.heap.size with h | h
    · exact h
    · rw [hout b h] at hi; omega
  have ld : ∀ {i : Nat}, live (b0.set j (.cells k cs')) i ↔ live b0 i := live_set (by simp) hlive
  refine ⟨v, F, box0, r, _, hΦ, hv, ⟨fun _ => hdr, hos, htape, hou, hsz, fun q hq hn => hk q hq (fun h => ?_)⟩, fun _ _ => rfl, fun b hb => hout b (Nat.le_trans hsz hb), fun _ _ h => h, by simpa using hbl,
    fun i b c hi h => (by have := getElem?_lt h; omega), fun i b c hi hli _ => (hbi i b c hi).2 (ld.1 hli), fun i i' b c c' h1 h2 l1 l2 _ _ => hbj i i' b c c' h1 h2 (ld.1 l1) (ld.1 l2), fun i d x hd hx' hin => ?_, hr⟩
  · subst h
    refine hn j cap ?_
    clear hx hΦ hv hr ld L
    induction b0 generalizing box0 j with
    | nil => simp at hl
    | cons x b ih =>
      cases box0 with
      | nil => simp at hj
      | cons d box =>
        cases j with
        | zero =>
          simp at hl hj
          subst hl; subst hj
          simp [mask]
        | succ j =>
          have h1 : b[j]? = some (.cells k cs) := by simpa using hl
          have h2 : box[j]? = some (.blk q cap) := by simpa using hj
          have aux : ∀ (b : List ABox) (box : List BId) (j : Nat), b[j]? = some (.cells k cs) → box[j]? = some (.blk q cap) → (mask b box)[j]? = some (.blk q cap) := by
            intro b
            induction b with
            | nil => intro box j h; simp at h
            | cons x b ih =>
              intro box j h1 h2
              cases box with
              | nil => simp at h2
              | cons d box =>
                cases j with
                | zero => simp at h1 h2; subst h1; subst h2; simp [mask]
                | succ j => cases x <;> simpa [mask] using ih box j (by simpa using h1) (by simpa using h2)
          cases x <;> simpa [mask] using aux b box j h1 h2
  · rw [List.getElem?_set] at hx'
    by_cases hij : j = i
    · subst hij
      rw [if_pos rfl, if_pos hjl] at hx'
      rw [hj] at hd
      cases hx'; cases hd
      exact hx (fun y v h => h.later L (fun _ _ h => h))
    · rw [if_neg hij] at hx'
      refine (hB i d x hd hx').later L (fun _ _ h => h) (fun b c he hnd => ?_)
      subst he
      refine hk b (hbi i b c hd).1 (fun h => ?_)
      subst h
      exact hij (hbj j i b cap c hj hd hlive (fun h => hnd (by rw [hx'] at h; exact Option.some.inj h)))
/-- nothing has been turned -/
theorem gpost_same {w : World} {F : Nat → Nat} {box0 : List BId} {b0 : List ABox} {Φ : AV → List ABox → Prop} (hout : ∀ b, w.heap.size ≤ b → F b = 0) (hbl : box0.length = b0.length)
    (hbi : ∀ (j b c : Nat), box0[j]? = some (.blk b c) → b < w.heap.size ∧ (live b0 j → F b = 0))
    (hbj : ∀ (i j b c c' : Nat), box0[i]? = some (.blk b c) → box0[j]? = some (.blk b c') → live b0 i → live b0 j → i = j)
    (hB : BoxesOk w.heap.size w F [] [] box0 b0) {e : Ending} {v : Value} {r : AV} (hv : e = .returned v) (hr : Rep w.heap.size w F [] [] box0 r v) (hΦ : Φ r b0) :
    ∃ (v : Value) (F' : Nat → Nat) (box1 : List BId) (r : AV) (b1 : List ABox), Φ r b1 ∧ e = .returned v ∧ Keep mo (mask b0 box0) w w ∧ (∀ b, b < w.heap.size → F' b = F b) ∧ (∀ b, w.heap.size ≤ b → F' b = 0) ∧
      (∀ (j : Nat) d, box0[j]? = some d → box1[j]? = some d) ∧ box1.length = b1.length ∧
      (∀ (j b c : Nat), box0.length ≤ j → box1[j]? = some (.blk b c) → (w.heap.size ≤ b ∨ ∃ i : Nat, live b0 i ∧ box0[i]? = some (.blk b c)) ∧ b < w.heap.size) ∧
      (∀ (j b c : Nat), box1[j]? = some (.blk b c) → live b1 j → (box0.length ≤ j ∨ live b0 j) → F' b = 0) ∧
      (∀ (i j b c c' : Nat), box1[i]? = some (.blk b c) → box1[j]? = some (.blk b c') → live b1 i → live b1 j → (box0.length ≤ i ∨ live b0 i) → (box0.length ≤ j ∨ live b0 j) → i = j) ∧
      (∀ (j : Nat) d x, box1[j]? = some d → b1[j]? = some x → (box0.length ≤ j ∨ live b0 j) → BoxOk w.heap.size w F' [] [] box1 d x) ∧ Rep w.heap.size w F' [] [] box1 r v :=
  ⟨v, F, box0, r, b0, hΦ, hv, Keep.refl _ _, fun _ _ => rfl, hout, fun _ _ h => h, hbl, fun i b c hi h => (by have := getElem?_lt h; omega), fun i b c hi hl _ => (hbi i b c hi).2 hl,
    fun i j b c c' h1 h2 l1 l2 _ _ => hbj i j b c c' h1 h2 l1 l2, fun i d x hd hx _ => hB i d x hd hx, hr⟩
theorem putCells_zero {α : Type} [Inhabited α] (enc : α → Value) (d : Array α) (c : Array Value) (h : d.size ≤ c.size) : (putCells enc 0 d c).toList = d.toList.map enc ++ c.toList.drop d.size := by
  apply List.ext_getElem?
  intro i
  rw [Array.getElem?_toList, putCells, Array.getElem?_mapIdx, List.getElem?_append, List.length_map, Array.length_toList]
  by_cases hi : i < d.size
  · have hc : i < c.size := by omega
    simp [hi, hc, getElem!_pos d i hi]
  · rw [if_neg hi, List.getElem?_drop, show d.size + (i - d.size) = i by omega, Array.getElem?_toList]
    cases c[i]? with
    | none => rfl
    | some x => simp [hi]
theorem set_self {α : Type} {l : List α} {j : Nat} {x : α} (h : l[j]? = some x) : l.set j x = l := by
  apply List.ext_getElem?
  intro i
  rw [List.getElem?_set]
  split
  · rename_i hij; subst hij; rw [if_pos (getElem?_lt h), h]
  · rfl
/-- a row of texts -/
theorem texts_of_box {B : Nat} {w : World} {F : Nat → Nat} {box : List BId} {b cap t : Nat} {ss : List Str} (h : BoxOk B w F [] [] box (.blk b cap) (.cells (.row t 1) (ss.map .str))) :
    ∃ c : Array Value, w.heap[b]? = some (.cells c t (0, 0)) ∧ ss.length ≤ c.size ∧ (∀ (i : Nat) s, ss[i]? = some s → c[i]? = some (mkS s)) ∧ c.size = cap ∧ cap ≤ maxLen := by
  obtain ⟨c, t', hh, hle, hr, rfl, hcs, hcm⟩ := h
  rw [List.length_map] at hle
  refine ⟨c, hh, hle, fun i s hi => ?_, by omega, hcm⟩
  have hlt := getElem?_lt hi
  have hx := (hr i (.str s) (by rw [List.getElem?_map, hi]; rfl)).1
  have hc : c[i]? = some (c.getD i undef) := by simp [Array.getD, show i < c.size by omega]
  rw [hc]
  generalize c.getD i undef = u at hx
  cases hx; rfl
theorem texts_both {B : Nat} {w : World} {F : Nat → Nat} {box : List BId} (ss : List Str) : Both (Rep B w F [] [] box) (ss.map .str) (ss.map mkS) := by
  refine ⟨by simp, fun i x y hx hy => ?_⟩
  rw [List.getElem?_map] at hx hy
  cases hi : ss[i]? with
  | none => rw [hi] at hx; cases hx
  | some s => rw [hi] at hx hy; cases hx; cases hy; exact .str s
end Abs
end Go.Proofs.YtimcfgokocihnaaGreat
namespace Go.Proofs
open Go.Shelf
def Tryz.lays190_ren : Go.Shelf.Ren := ⟨fun | 190 => 85 | 125 => 99 | 258 => 98 | 128 => 112 | 129 => 113 | 302 => 103 | 303 => 104 | 304 => 105 | 305 => 106 | 306 => 107 | 307 => 108 | 308 => 109 | 309 => 110 | 310 => 111 | 333 => 118 | 329 => 119 | 330 => 120 | 334 => 121 | 335 => 122 | 336 => 123 | 344 => 126 | n => n, fun | 31 => 46 | 9 => 9 | 3 => 3 | 46 => 110 | 0 => 0 | 51 => 124 | 53 => 126 | 4 => 4 | 183 => 117 | 182 => 116 | 131 => 121 | 5 => 5 | 218 => 127 | 222 => 131 | 228 => 134 | 229 => 135 | n => n, fun | n => n⟩
theorem Tryz.lays190 : Go.Proofs.Lays.n190 Tryz.prog Tryz.lays190_ren := {
  mixed := by kernel_rfl
  f125 := Tryz.func99.trans (congrArg some (by kernel_rfl))
  f128 := Tryz.func112.trans (congrArg some (by kernel_rfl))
  f129 := Tryz.func113.trans (congrArg some (by kernel_rfl))
  f190 := Tryz.func85.trans (congrArg some (by kernel_rfl))
  f258 := Tryz.func98.trans (congrArg some (by kernel_rfl))
  f302 := Tryz.func103.trans (congrArg some (by kernel_rfl))
  f303 := Tryz.func104.trans (congrArg some (by kernel_rfl))
  f304 := Tryz.func105.trans (congrArg some (by kernel_rfl))
  f305 := Tryz.func106.trans (congrArg some (by kernel_rfl))
  f306 := Tryz.func107.trans (congrArg some (by kernel_rfl))
  f307 := Tryz.func108.trans (congrArg some (by kernel_rfl))
  f308 := Tryz.func109.trans (congrArg some (by kernel_rfl))
  f309 := Tryz.func110.trans (congrArg some (by kernel_rfl))
  f310 := Tryz.func111.trans (congrArg some (by kernel_rfl))
  f329 := Tryz.func119.trans (congrArg some (by kernel_rfl))
  f330 := Tryz.func120.trans (congrArg some (by kernel_rfl))
  f333 := Tryz.func118.trans (congrArg some (by kernel_rfl))
  f334 := Tryz.func121.trans (congrArg some (by kernel_rfl))
  f335 := Tryz.func122.trans (congrArg some (by kernel_rfl))
  f336 := Tryz.func123.trans (congrArg some (by kernel_rfl))
  f344 := Tryz.func126.trans (congrArg some (by kernel_rfl))
  t0 := Tryz.underlying0
  a0 := Tryz.isAgg0
  z0 := Tryz.sizeOf0
  v0 := Tryz.zeroValue0
  t3 := Tryz.underlying3
  a3 := Tryz.isAgg3
  z3 := Tryz.sizeOf3
  v3 := Tryz.zeroValue3
  t4 := Tryz.underlying4
  a4 := Tryz.isAgg4
  z4 := Tryz.sizeOf4
  v4 := Tryz.zeroValue4
  t5 := Tryz.underlying5
  a5 := Tryz.isAgg5
  z5 := Tryz.sizeOf5
  v5 := Tryz.zeroValue5
  t9 := Tryz.underlying9
  a9 := Tryz.isAgg9
  z9 := Tryz.sizeOf9
  v9 := Tryz.zeroValue9
  t31 := Tryz.underlying46
  a31 := Tryz.isAgg46
  z31 := Tryz.sizeOf46
  v31 := Tryz.zeroValue46
  t46 := Tryz.underlying110
  a46 := Tryz.isAgg110
  z46 := Tryz.sizeOf110
  v46 := Tryz.zeroValue110
  t51 := Tryz.underlying124
  a51 := Tryz.isAgg124
  z51 := Tryz.sizeOf124
  v51 := Tryz.zeroValue124
  t53 := Tryz.underlying126
  a53 := Tryz.isAgg126
  z53 := Tryz.sizeOf126
  v53 := Tryz.zeroValue126
  t131 := Tryz.underlying121
  a131 := Tryz.isAgg121
  z131 := Tryz.sizeOf121
  v131 := Tryz.zeroValue121
  t182 := Tryz.underlying116
  a182 := Tryz.isAgg116
  z182 := Tryz.sizeOf116
  v182 := Tryz.zeroValue116
  t183 := Tryz.underlying117
  a183 := Tryz.isAgg117
  z183 := Tryz.sizeOf117
  v183 := Tryz.zeroValue117
  t218 := Tryz.underlying127
  a218 := Tryz.isAgg127
  z218 := Tryz.sizeOf127
  v218 := Tryz.zeroValue127
  t222 := Tryz.underlying131
  a222 := Tryz.isAgg131
  z222 := Tryz.sizeOf131
  v222 := Tryz.zeroValue131
  t228 := Tryz.underlying134
  a228 := Tryz.isAgg134
  z228 := Tryz.sizeOf134
  v228 := Tryz.zeroValue134
  t229 := Tryz.underlying135
  a229 := Tryz.isAgg135
  z229 := Tryz.sizeOf135
  v229 := Tryz.zeroValue135 }
open Go.Sort Go.RowKit in
theorem Tryz.slices_Sort_string (blk off cap : Nat) (ss : List (List UInt8)) (w : World) (hH : Holds encStr w blk off ss.toArray) (hblk : blk < w.heap.size) (hsz : ss.length < 4611686018427387904) :
    Calls Tryz.prog 85 #[.slice (some ⟨blk, off, none⟩) ss.length cap] w fun e w' =>
      e = .returned (.tuple #[]) ∧ ∃ n os, w' = grow (putRow encStr (Sort.ahead w n) blk off (ss.mergeSort fun x y => decide (x ≤ y)).toArray) os := Any.slices_Sort_string Tryz.lays190 blk off cap ss w hH hblk hsz
def Tryz.lays194_ren : Go.Shelf.Ren := ⟨fun | 194 => 86 | n => n, fun | 31 => 46 | 9 => 9 | 3 => 3 | 4 => 4 | 0 => 0 | n => n, fun | n => n⟩
theorem Tryz.lays194 : Go.Proofs.Lays.n194 Tryz.prog Tryz.lays194_ren := {
  mixed := by kernel_rfl
  f194 := Tryz.func86.trans (congrArg some (by kernel_rfl))
  t0 := Tryz.underlying0
  a0 := Tryz.isAgg0
  z0 := Tryz.sizeOf0
  v0 := Tryz.zeroValue0
  t3 := Tryz.underlying3
  a3 := Tryz.isAgg3
  z3 := Tryz.sizeOf3
  v3 := Tryz.zeroValue3
  t4 := Tryz.underlying4
  a4 := Tryz.isAgg4
  z4 := Tryz.sizeOf4
  v4 := Tryz.zeroValue4
  t9 := Tryz.underlying9
  a9 := Tryz.isAgg9
  z9 := Tryz.sizeOf9
  v9 := Tryz.zeroValue9
  t31 := Tryz.underlying46
  a31 := Tryz.isAgg46
  z31 := Tryz.sizeOf46
  v31 := Tryz.zeroValue46 }
open Go.RowKit Go.Lib Go.Sort in
theorem Tryz.slices_Compact_string (blk off cap : Nat) (zs : List (List UInt8)) (w : World) (hH : Holds encStr w blk off zs.toArray) (hsz : zs.length ≤ 9223372036854775807) (hcap : zs.length ≤ cap) :
    Calls Tryz.prog 86 #[.slice (some ⟨blk, off, none⟩) zs.length cap] w fun e w' => e = .returned (.slice (some ⟨blk, off, none⟩) (Lib.compact zs).length cap) ∧ ∃ q, w' = putRow encStr (Sort.ahead w q) blk off (Lib.compact zs ++ List.replicate (zs.length - (Lib.compact zs).length) []).toArray := Any.slices_Compact_string Tryz.lays194 blk off cap zs w hH hsz hcap
open Go.RowKit Go.Lib Go.Sort in
theorem Tryz.slices_Compact_string_empty (a : Option Addr) (cap : Nat) (w : World) :
    Calls Tryz.prog 86 #[.slice a 0 cap] w fun e w' => e = .returned (.slice a 0 cap) ∧ w' = w := Any.slices_Compact_string_empty Tryz.lays194 a cap w
open Go.RowKit Go.Sort in
theorem Tryz.slices_Sort_string_none (p : Option Addr) (cap : Nat) (w : World) :
    Calls Tryz.prog 85 #[.slice p 0 cap] w fun e w' => e = .returned (.tuple #[]) ∧ w' = w := Any.slices_Sort_string_none Tryz.lays190 p cap w
end Go.Proofs
namespace Go.Proofs.YtimcfgokocihnaaGreat
open Abs Go.RowKit Go.Sort
/-- ascending, byte by byte -/
def srt (ss : List Str) : List Str := ss.mergeSort fun x y => decide (x ≤ y)
theorem compact_nil : Lib.compact ([] : List Str) = [] := rfl
theorem compact_len (ss : List Str) : (Lib.compact ss).length ≤ ss.length := by
  rw [Lib.compact, Lib.compactUpTo, List.length_map]
  exact Nat.le_trans (List.length_filter_le _ _) (by simp)
theorem holds_texts {w : World} {b t : Nat} {ss : List Str} {c : Array Value} (hh : w.heap[b]? = some (.cells c t (0, 0))) (hc : ∀ (i : Nat) s, ss[i]? = some s → c[i]? = some (mkS s)) : Holds encStr w b 0 ss.toArray := by
  intro i hi
  have hi' : i < ss.length := by simpa using hi
  have h1 := hc i _ (List.getElem?_eq_getElem hi')
  have e1 : ss.toArray[i]! = ss[i] := by simp [hi']
  rw [e1, Nat.zero_add]
  refine ⟨by rw [cell_of_row w b i c t (0, 0) hh, h1]; rfl, ?_⟩
  simp [World.frozen?, hh]
theorem slSort.ctx (b : List ABox) (j : Nat) (ss : List Str) (hj : b[j]? = some (.cells (.row 9 1) (ss.map .str))) (hn : ss.length ≤ 1099511627776) :
    slSort.Ctx b [.bsl j ss.length] (fun r b1 => r = .tup [] ∧ b1 = b.set j (.cells (.row 9 1) ((srt ss).map .str))) := by
  unfold slSort.Ctx
  rw [Ctx_eq]
  refine ⟨by kernel_rfl, fun w F vs box0 hout hbl hbi hbj hB hargs => ?_⟩
  obtain ⟨v0, rfl⟩ : ∃ v0, vs = #[v0] := by
    have := hargs.1
    match vs, this with
    | ⟨[a]⟩, _ => exact ⟨a, rfl⟩
  obtain ⟨h0, _⟩ := Both.cons.1 hargs
  rcases h0.bsl_inv with ⟨bl, cap, hb, hcap, rfl⟩ | ⟨hb, hz, rfl⟩
  · obtain ⟨c, hh, hle, hc, hcs, hcm⟩ := texts_of_box (hB j _ _ hb hj)
    refine (Tryz.slices_Sort_string bl 0 cap ss w (holds_texts hh hc) (hbi j bl cap hb).1 (by omega)).mono ?_
    rintro e w' ⟨rfl, n, os, hw⟩
    have hlen : (srt ss).length = ss.length := List.length_mergeSort _
    have hh' : w'.heap[bl]? = some (.cells (putCells encStr 0 (srt ss).toArray c) 9 (0, 0)) := by
      rw [hw, heap_grow _ _ _ (by simpa using (hbi j bl cap hb).1)]
      exact heap_putRow encStr (Sort.ahead w n) bl 0 (srt ss).toArray c _ (0, 0) hh
    have hk : ∀ k, k < w.heap.size → k ≠ bl → w'.heap[k]? = w.heap[k]? := fun k hk hkb => by
      rw [hw, heap_grow _ _ _ (by simpa using hk), heap_putRow_other _ _ _ _ _ _ hkb]; rfl
    refine gpost_row (w' := w') (Φ := fun r b1 => r = .tup [] ∧ b1 = b.set j (.cells (.row 9 1) ((srt ss).map .str))) (v := .tuple #[]) (r := .tup []) hout hbl hbi hbj hB hb hj
      (by rw [hw]; simp [grow, putRow, mapBlock, Sort.ahead]) (by rw [hw]; rfl) (by rw [hw]; rfl) (by rw [hw]; rfl) (by rw [hw]; simp) hk (fun _ => ?_) rfl (.tup [] #[] rfl (by simp)) ⟨rfl, rfl⟩
    refine boxOk_row (c := putCells encStr 0 (srt ss).toArray c) (vals := (srt ss).map mkS) (rest := c.toList.drop (srt ss).length) hh' ?_ (texts_both _) (fun u hu => ?_) ?_ hcm
    · rw [putCells_zero _ _ _ (by simp [hlen]; exact hle)]; simp; intro a _; rfl
    · obtain ⟨s, _, rfl⟩ := List.mem_map.1 hu; rfl
    · simp [hlen]; omega
  · have h0 : ss = [] := List.eq_nil_of_length_eq_zero hz
    subst h0
    refine (Tryz.slices_Sort_string_none none 0 w).mono ?_
    rintro e w' ⟨rfl, rfl⟩
    exact gpost_same hout hbl hbi hbj hB rfl (.tup [] #[] rfl (by simp)) ⟨rfl, by rw [show srt [] = [] by simp [srt], set_self hj]⟩
theorem slCompact.ctx (b : List ABox) (j : Nat) (ss : List Str) (hj : b[j]? = some (.cells (.row 9 1) (ss.map .str))) (hn : ss.length ≤ 1099511627776) :
    slCompact.Ctx b [.bsl j ss.length] (fun r b1 => r = .bsl j (Lib.compact ss).length ∧ b1 = b.set j (.cells (.row 9 1) ((Lib.compact ss).map .str))) := by
  unfold slCompact.Ctx
  rw [Ctx_eq]
  refine ⟨by kernel_rfl, fun w F vs box0 hout hbl hbi hbj hB hargs => ?_⟩
  obtain ⟨v0, rfl⟩ : ∃ v0, vs = #[v0] := by
    have := hargs.1
    match vs, this with
    | ⟨[a]⟩, _ => exact ⟨a, rfl⟩
  obtain ⟨h0, _⟩ := Both.cons.1 hargs
  rcases h0.bsl_inv with ⟨bl, cap, hb, hcap, rfl⟩ | ⟨hb, hz, rfl⟩
  · obtain ⟨c, hh, hle, hc, hcs, hcm⟩ := texts_of_box (hB j _ _ hb hj)
    have hcl := compact_len ss
    refine (Tryz.slices_Compact_string bl 0 cap ss w (holds_texts hh hc) (by omega) hcap).mono ?_
    rintro e w' ⟨rfl, n, hw⟩
    have hh' : w'.heap[bl]? = some (.cells (putCells encStr 0 (Lib.compact ss ++ List.replicate (ss.length - (Lib.compact ss).length) []).toArray c) 9 (0, 0)) := by
      rw [hw]; exact heap_putRow encStr (Sort.ahead w n) bl 0 _ c _ (0, 0) hh
    have hk : ∀ k, k < w.heap.size → k ≠ bl → w'.heap[k]? = w.heap[k]? := fun k hk hkb => by
      rw [hw, heap_putRow_other _ _ _ _ _ _ hkb]; rfl
    refine gpost_row (w' := w') (Φ := fun r b1 => r = .bsl j (Lib.compact ss).length ∧ b1 = b.set j (.cells (.row 9 1) ((Lib.compact ss).map .str))) (r := .bsl j (Lib.compact ss).length) hout hbl hbi hbj hB hb hj
      (by rw [hw]; simp [putRow, mapBlock, Sort.ahead]) (by rw [hw]; rfl) (by rw [hw]; rfl) (by rw [hw]; rfl) (by rw [hw]; simp) hk (fun _ => ?_) rfl (.bsl j _ bl cap hb (by omega)) ⟨rfl, rfl⟩
    refine boxOk_row (vals := (Lib.compact ss).map mkS) (rest := List.replicate (ss.length - (Lib.compact ss).length) (mkS []) ++ c.toList.drop ss.length) hh' ?_ (texts_both _) (fun u hu => ?_) ?_ hcm
    · rw [putCells_zero _ _ _ (by simp; omega)]
      simp only [List.map_append, List.map_replicate, List.append_assoc, List.size_toArray, List.length_append, List.length_replicate, Nat.add_sub_cancel' hcl]
      rfl
    · obtain ⟨s, _, rfl⟩ := List.mem_map.1 hu; rfl
    · simp; omega
  · have h0 : ss = [] := List.eq_nil_of_length_eq_zero hz
    subst h0
    refine (Tryz.slices_Compact_string_empty none 0 w).mono ?_
    rintro e w' ⟨rfl, rfl⟩
    exact gpost_same hout hbl hbi hbj hB rfl (.bnil j hb) ⟨by rw [compact_nil]; rfl, by rw [compact_nil, set_self hj]⟩
end Go.Proofs.YtimcfgokocihnaaGreat
namespace Go.Proofs.YtimcfgokocihnaaGreat
open Abs
structure STO {α : Type} (lt : α → α → Bool) : Prop where
  irrefl : ∀ x, lt x x = false
  trans : ∀ x y z, lt x y = true → lt y z = true → lt x z = true
  tri : ∀ x y, lt x y = false → lt y x = false → x = y
section
variable {α : Type} {lt : α → α → Bool}
theorem STO.asymm (h : STO lt) {x y : α} (hxy : lt x y = true) : lt y x = false := by
  cases hyx : lt y x with
  | false => rfl
  | true => have := h.trans x y x hxy hyx; rw [h.irrefl] at this; cases this
def Asc (lt : α → α → Bool) (l : List α) : Prop := l.Pairwise fun x y => lt x y = true
/-- ascending lists with the same members are one -/
theorem Asc.unique (h : STO lt) : ∀ {l m : List α}, Asc lt l → Asc lt m → (∀ x, x ∈ l ↔ x ∈ m) → l = m
  | [], [], _, _, _ => rfl
  | [], y :: m, _, _, hm => absurd ((hm y).2 (by simp)) (by simp)
  | x :: l, [], _, _, hm => absurd ((hm x).1 (by simp)) (by simp)
  | x :: l, y :: m, hl, hr, hm => by
    obtain ⟨h1, h2⟩ := List.pairwise_cons.1 hl
    obtain ⟨h3, h4⟩ := List.pairwise_cons.1 hr
    have hxy : x = y := by
      rcases List.mem_cons.1 ((hm x).1 (by simp)) with e | hx
      · exact e
      · rcases List.mem_cons.1 ((hm y).2 (by simp)) with e | hy
        · exact e.symm
        · have := h.asymm (h3 x hx); rw [h1 y hy] at this; cases this
    subst hxy
    congr 1
    refine Asc.unique h h2 h4 fun z => ⟨fun hz => ?_, fun hz => ?_⟩
    · rcases List.mem_cons.1 ((hm z).1 (by simp [hz])) with e | hz'
      · subst e; have := h1 z hz; rw [h.irrefl] at this; cases this
      · exact hz'
    · rcases List.mem_cons.1 ((hm z).2 (by simp [hz])) with e | hz'
      · subst e; have := h3 z hz; rw [h.irrefl] at this; cases this
      · exact hz'
/-- put in at its place, unless it is there -/
def ins (lt : α → α → Bool) (s : α) : Bool → List α → List α
  | d, [] => if d then [] else [s]
  | true, x :: l => x :: ins lt s true l
  | false, x :: l => if lt x s then x :: ins lt s false l else if lt s x then s :: x :: ins lt s true l else x :: ins lt s true l
theorem ins_true (s : α) : ∀ l, ins lt s true l = l
  | [] => rfl
  | x :: l => by rw [ins, ins_true s l]
theorem ins_mem (h : STO lt) (s : α) : ∀ l x, x ∈ ins lt s false l ↔ x = s ∨ x ∈ l
  | [], x => by simp [ins]
  | y :: l, x => by
    rw [ins]
    split
    · rw [List.mem_cons, ins_mem h s l x, List.mem_cons]
      exact ⟨fun h => by rcases h with h | h | h <;> simp [h], fun h => by rcases h with h | h | h <;> simp [h]⟩
    · rename_i h1
      split
      · rw [ins_true]; simp
      · rename_i h2
        rw [ins_true]
        have : y = s := h.tri y s (by simpa using h1) (by simpa using h2)
        subst this; simp
theorem ins_asc (h : STO lt) (s : α) : ∀ l, Asc lt l → Asc lt (ins lt s false l)
  | [], _ => by simp [ins, Asc]
  | y :: l, hl => by
    obtain ⟨h1, h2⟩ := List.pairwise_cons.1 hl
    rw [ins]
    split
    · rename_i hy
      refine List.pairwise_cons.2 ⟨fun z hz => ?_, ins_asc h s l h2⟩
      rcases (ins_mem h s l z).1 hz with rfl | hz
      · exact hy
      · exact h1 z hz
    · split
      · rename_i hs
        rw [ins_true]
        refine List.pairwise_cons.2 ⟨fun z hz => ?_, hl⟩
        rcases List.mem_cons.1 hz with rfl | hz
        · exact hs
        · exact h.trans _ _ _ hs (h1 z hz)
      · rw [ins_true]; exact hl
theorem ins_len (s : α) : ∀ (d : Bool) (l : List α), (ins lt s d l).length ≤ l.length + 1
  | true, l => by rw [ins_true]; omega
  | false, [] => by simp [ins]
  | false, y :: l => by
    have := ins_len s false l
    rw [ins]
    split
    · simp only [List.length_cons]; omega
    · split <;> simp [ins_true]
/-- one by one -/
def insAll (lt : α → α → Bool) (l : List α) : List α := l.foldl (fun a s => ins lt s false a) []
theorem insAll_take_succ {l : List α} {i : Nat} (d : α) (h : i < l.length) : insAll lt (l.take (i + 1)) = ins lt (l.getD i d) false (insAll lt (l.take i)) := by
  unfold insAll; exact foldl_take_succ d _ _ h
theorem insAll_asc (h : STO lt) (l : List α) : Asc lt (insAll lt l) := by
  have : ∀ (l a : List α), Asc lt a → Asc lt (l.foldl (fun a s => ins lt s false a) a) := fun l => by
    induction l with
    | nil => exact fun a ha => ha
    | cons x l ih => exact fun a ha => ih _ (ins_asc h x a ha)
  exact this l [] .nil
theorem insAll_mem (h : STO lt) (l : List α) (x : α) : x ∈ insAll lt l ↔ x ∈ l := by
  have : ∀ (l a : List α), x ∈ l.foldl (fun a s => ins lt s false a) a ↔ x ∈ l ∨ x ∈ a := fun l => by
    induction l with
    | nil => simp
    | cons y l ih =>
      intro a
      rw [List.foldl_cons, ih, ins_mem h, List.mem_cons]
      exact ⟨fun h => by rcases h with h | h | h <;> simp [h], fun h => by rcases h with (h | h) | h <;> simp [h]⟩
  unfold insAll; simpa using this l []
theorem insAll_len (l : List α) : (insAll lt l).length ≤ l.length := by
  have : ∀ (l a : List α), (l.foldl (fun a s => ins lt s false a) a).length ≤ a.length + l.length := fun l => by
    induction l with
    | nil => simp
    | cons x l ih => intro a; have := ih (ins lt x false a); have := ins_len (lt := lt) x false a; simp only [List.foldl_cons, List.length_cons] at *; omega
  unfold insAll; simpa using this l []
variable [Inhabited α] [DecidableEq α]
/-- what is kept of a sorted list ascends, and nothing is lost -/
theorem compact_asc (h : STO lt) (l : List α) (hs : l.Pairwise fun x y => lt y x = false) : Asc lt (Lib.compact l) ∧ ∀ x, x ∈ Lib.compact l ↔ x ∈ l := by
  have key : ∀ m, m ≤ l.length → Asc lt (Lib.compactUpTo l.toArray m) ∧ (∀ x, x ∈ Lib.compactUpTo l.toArray m ↔ x ∈ l.take m) := by
    intro m
    induction m with
    | zero => intro _; simp [Lib.compactUpTo, Asc]
    | succ m ih =>
      intro hm
      obtain ⟨i1, i2⟩ := ih (by omega)
      have hml : m < l.length := by omega
      have hgm : l.toArray[m]! = l[m] := by simp [hml]
      have htake : l.take (m + 1) = l.take m ++ [l[m]] := by rw [List.take_succ_eq_append_getElem hml]
      rw [Lib.compactUpTo_succ, htake]
      by_cases hk : Lib.keeps l.toArray m = true
      · rw [if_pos hk, hgm]
        refine ⟨List.pairwise_append.2 ⟨i1, by simp, fun x hx y hy => ?_⟩, fun x => by rw [List.mem_append, List.mem_append, i2]⟩
        simp only [List.mem_singleton] at hy; subst hy
        have hx' := (i2 x).1 hx
        obtain ⟨i, hi, hix⟩ := List.getElem_of_mem hx'
        have him : i < m := by simp at hi; omega
        have hil : i < l.length := by omega
        have hxl : l[i] = x := by rw [← hix]; simp
        have hpw := List.pairwise_iff_getElem.1 hs
        -- the one before is another one
        have hne : l[m] ≠ l[m - 1] := by
          simp only [Lib.keeps, decide_eq_true_eq] at hk
          rcases hk with hk | hk
          · omega
          · rw [hgm] at hk
            have : l.toArray[m - 1]! = l[m - 1] := by simp [show m - 1 < l.length by omega]
            rwa [this] at hk
        have hle1 : lt l[m] l[m - 1] = false := hpw (m - 1) m (by omega) hml (by omega)
        have hlt1 : lt l[m - 1] l[m] = true := by
          cases hc : lt l[m - 1] l[m] with
          | true => rfl
          | false => exact absurd (h.tri _ _ hle1 hc) hne
        by_cases him1 : i = m - 1
        · subst him1; rw [← hxl]; exact hlt1
        · have hle2 : lt l[m - 1] l[i] = false := hpw i (m - 1) hil (by omega) (by omega)
          cases hc : lt x l[m] with
          | true => rfl
          | false =>
            exfalso
            rw [← hxl] at hc
            cases hd : lt l[i] l[m - 1] with
            | true => have := h.trans _ _ _ hd hlt1; rw [this] at hc; cases hc
            | false => have := h.tri _ _ hd hle2; rw [this, hlt1] at hc; cases hc
      · rw [if_neg hk, List.append_nil]
        refine ⟨i1, fun x => ?_⟩
        rw [List.mem_append, i2, List.mem_singleton]
        refine ⟨.inl, fun hx => ?_⟩
        rcases hx with hx | rfl
        · exact hx
        · simp only [Lib.keeps, decide_eq_true_eq, not_or, Decidable.not_not] at hk
          have h2 : l.toArray[m - 1]! = l[m - 1] := by simp [show m - 1 < l.length by omega]
          rw [hgm, h2] at hk
          rw [hk.2]
          have h3 : m - 1 < (l.take m).length := by simp; omega
          have h4 : (l.take m)[m - 1] = l[m - 1] := by simp
          rw [← h4]; exact List.getElem_mem h3
  have := key l.length (Nat.le_refl _)
  rw [List.take_length] at this
  exact this
end
def blt (a b : Str) : Bool := Op.bytesLess a b
theorem blt_eq : ∀ a b : Str, blt a b = decide (a < b)
  | _, [] => by simp [blt, Op.bytesLess]
  | [], _ :: _ => by simp [blt, Op.bytesLess]
  | a :: x, b :: y => by
    have ih := blt_eq x y
    rw [blt] at ih ⊢
    rw [Op.bytesLess, ih]
    rw [Bool.eq_iff_iff]
    simp only [Bool.or_eq_true, Bool.and_eq_true, decide_eq_true_eq, beq_iff_eq]
    rw [List.cons_lt_cons_iff]
theorem blt_sto : STO blt where
  irrefl x := by rw [blt_eq]; simp [List.lt_irrefl]
  trans x y z h1 h2 := by rw [blt_eq, decide_eq_true_eq] at *; exact List.lt_trans h1 h2
  tri x y h1 h2 := by
    rw [blt_eq, decide_eq_false_iff_not] at *
    exact List.le_antisymm (List.not_lt.1 h2) (List.not_lt.1 h1)
end Go.Proofs.YtimcfgokocihnaaGreat
namespace Go.Proofs.YtimcfgokocihnaaGreat
open Abs
theorem ins_drop {α : Type} {lt : α → α → Bool} {s : α} {l : List α} {i : Nat} (e : α) (d : Bool) (hi : i < l.length) :
    ins lt s d (l.drop i) = if d then l.getD i e :: ins lt s true (l.drop (i + 1)) else if lt (l.getD i e) s then l.getD i e :: ins lt s false (l.drop (i + 1)) else if lt s (l.getD i e) then s :: l.getD i e :: ins lt s true (l.drop (i + 1)) else l.getD i e :: ins lt s true (l.drop (i + 1)) := by
  rw [List.drop_eq_getElem_cons hi]
  have : l.getD i e = l[i] := by simp [List.getD, hi]
  rw [this]
  cases d <;> rfl
theorem sPut.ret (l : List Str) (s : Str) (h : l.length ≤ 1048576) : sPut.Ret [.list none (strs l), .str s] (.list (some 0) (strs (ins blt s false l))) [(9, 1, (ins blt s false l).length)] := by
  refine sPut.of rfl ?_
  repeat' first
    | contradiction | exact trivial
    | (conv => whnf
       first | refine Need.mk (fun h => h) ?_ | refine Need.mk rfl ?_ | refine Need.mk ⟨rfl, Nat.le_of_ble_eq_true rfl⟩ ?_ | refine Need.mk (Nat.le_of_ble_eq_true rfl) ?_ | refine Need.fin ?_ | refine Need.mk ?_ ?_ | refine Ix.strsF rfl ?_ | refine Ix.strs rfl ?_ ?_ | refine Cut.strs rfl ?_ ?_ | refine Ix.mapF (fun _ => rfl) ?_ | refine Ix.map (fun _ => rfl) ?_ ?_ | refine Cut.map (fun _ => rfl) ?_ ?_ | refine Fork.yes (by assumption) ?_ | refine Fork.no (by assumption) ?_ | refine Fork.decYes (by omega) ?_ | refine Fork.decNo (by omega) ?_ | refine Fork.dec (fun _ => ?_) (fun _ => ?_) | refine Fork.bne (fun _ => ?_) (fun _ => ?_) | refine Fork.beq (fun _ => ?_) (fun _ => ?_) | refine Fork.seq (fun _ => ?_) (fun _ => ?_) | refine Fork.sne (fun _ => ?_) (fun _ => ?_) | refine Fork.neg (fun _ => ?_) (fun _ => ?_) | refine Fork.mk (fun _ => ?_) (fun _ => ?_) | refine HAlt.mk ?_ ?_ | apply HJoin.mk3 | exact HEnd.mk rfl rfl rfl | refine HEnd.mk ?_ ?_ ?_ | refine Round.mk ?_ | refine NilQ.mk (fun b hb => ?_) | refine forceK_of ?_ | refine forceBx_of ?_ | refine unG_old ?_ | refine unG_gv ?_ | refine Lit.read rfl ?_ | refine FinVal.keep ?_ | refine FinAgg.keep ?_ | refine Final.mk rfl rfl | refine Final.mk ?_ rfl | refine Final.mk ?_ ?_ | refine FinalT.mk ?_ ?_ | refine FinalC.allA ?_)
    | refine AV.bool_congr ?_ | refine AV.int_congr ?_ | refine AV.str_congr ?_ | refine AV.list_congr ?_ | with_reducible rfl | refine fr1 ?_ | refine fr2 ?_ ?_
  refine ALoop.mk (Nat × List Str × Bool) (fun a => ⟨[(0, .list none (strs l)), (1, .str s), (5, .list (some 0) (strs a.2.1)), (6, .val (.bool a.2.2)), (7, .val (.int .i64 a.1))], [], [(9, 1, a.2.1.length)]⟩)
    (fun a => a.1 ≤ l.length ∧ (a.2.1.length ≤ a.1 + 1 ∧ (a.2.2 = false → a.2.1.length ≤ a.1)) ∧ a.2.1 ++ ins blt s a.2.2 (l.drop a.1) = ins blt s false l) (fun a => l.length - a.1) ⟨(0, [], false), ⟨Nat.zero_le _, ⟨Nat.zero_le _, fun _ => Nat.zero_le _⟩, rfl⟩, ?_⟩ (fun a ha => ?_)
  · repeat' first
      | exact trivial | refine Weak.mk ?_ ?_ ?_ ?_ (Or.inl (Nat.le_of_ble_eq_true rfl)) | refine Weak.mk ?_ ?_ ?_ ?_ (Or.inr ⟨(by repeat' first | exact trivial | exact Nat.le_of_ble_eq_true rfl | refine And.intro ?_ ?_), (by repeat' first | exact trivial | exact Nat.le_of_ble_eq_true rfl | refine And.intro ?_ ?_)⟩) | refine Weak.mk ?_ ?_ ?_ ?_ ?_ | refine And.intro ?_ ?_ | with_reducible rfl | exact Nat.le_of_ble_eq_true rfl | refine fr1 ?_ | refine fr2 ?_ ?_ | refine AV.int_congr ?_ | refine AV.bool_congr ?_ | refine AV.str_congr ?_ | refine AV.list_congr ?_ | refine AV.bsl_congr ?_ ?_ | (apply rfl)
  obtain ⟨i, o, d⟩ := a
  obtain ⟨h1, h2, h3⟩ := ha
  simp only at h1 h2 h3 ⊢
  repeat' first
    | contradiction | exact trivial
    | (conv => whnf
       first | refine Need.mk (fun h => h) ?_ | refine Need.mk rfl ?_ | refine Need.mk ⟨rfl, Nat.le_of_ble_eq_true rfl⟩ ?_ | refine Need.mk (Nat.le_of_ble_eq_true rfl) ?_ | refine Need.fin ?_ | refine Need.mk ?_ ?_ | refine Ix.strsF rfl ?_ | refine Ix.strs rfl ?_ ?_ | refine Cut.strs rfl ?_ ?_ | refine Ix.mapF (fun _ => rfl) ?_ | refine Ix.map (fun _ => rfl) ?_ ?_ | refine Cut.map (fun _ => rfl) ?_ ?_ | refine Fork.yes (by assumption) ?_ | refine Fork.no (by assumption) ?_ | refine Fork.decYes (by omega) ?_ | refine Fork.decNo (by omega) ?_ | refine Fork.dec (fun _ => ?_) (fun _ => ?_) | refine Fork.bne (fun _ => ?_) (fun _ => ?_) | refine Fork.beq (fun _ => ?_) (fun _ => ?_) | refine Fork.seq (fun _ => ?_) (fun _ => ?_) | refine Fork.sne (fun _ => ?_) (fun _ => ?_) | refine Fork.neg (fun _ => ?_) (fun _ => ?_) | refine Fork.mk (fun _ => ?_) (fun _ => ?_) | refine HAlt.mk ?_ ?_ | apply HJoin.mk3 | exact HEnd.mk rfl rfl rfl | refine HEnd.mk ?_ ?_ ?_ | refine Round.mk ?_ | refine NilQ.mk (fun b hb => ?_) | refine forceK_of ?_ | refine forceBx_of ?_ | refine unG_old ?_ | refine unG_gv ?_ | refine Lit.read rfl ?_ | refine FinVal.keep ?_ | refine FinAgg.keep ?_ | refine Final.mk rfl rfl | refine Final.mk ?_ rfl | refine Final.mk ?_ ?_ | refine FinalT.mk ?_ ?_ | refine FinalC.allA ?_)
    | refine AV.bool_congr ?_ | refine AV.int_congr ?_ | refine AV.str_congr ?_ | refine AV.list_congr ?_ | with_reducible rfl | refine fr1 ?_ | refine fr2 ?_ ?_
  all_goals try simp only [length_strs, List.length_append, List.length_singleton, List.length_cons, List.length_nil, Int.toNat_natCast] at *
  all_goals try (intro c hc; rw [List.mem_singleton.1 hc]; rfl)
  all_goals try (cases d with
    | true => simp at *; done
    | false => have h4 := h2.2 rfl; constructor <;> omega)
  all_goals try (constructor <;> omega)
  · have hb := ‹(!d && !Op.bytesLess (l.getD i []) s) = true›
    have hne := ‹l.getD i [] ≠ s›
    obtain ⟨rfl, hlt⟩ : d = false ∧ blt (l.getD i []) s = false := by revert hb; cases d <;> simp [blt]
    rw [ins_drop [] false (by omega), if_neg (by simp), if_neg (by rw [hlt]; simp)] at h3
    have hgt : blt s (l.getD i []) = true := by
      cases hc : blt s (l.getD i []) with
      | true => rfl
      | false => exact absurd (blt_sto.tri _ _ hlt hc) hne
    rw [if_pos hgt] at h3
    refine ⟨(i + 1, o ++ [s] ++ [l.getD i []], true), ⟨by omega, ⟨by have := h2.2 rfl; simp; omega, by simp⟩, by simpa using h3⟩, ?_, by simp only; omega⟩
    repeat' first
      | exact trivial | refine Weak.mk ?_ ?_ ?_ ?_ (Or.inl (Nat.le_of_ble_eq_true rfl)) | refine Weak.mk ?_ ?_ ?_ ?_ (Or.inr ⟨(by repeat' first | exact trivial | exact Nat.le_of_ble_eq_true rfl | refine And.intro ?_ ?_), (by repeat' first | exact trivial | exact Nat.le_of_ble_eq_true rfl | refine And.intro ?_ ?_)⟩) | refine Weak.mk ?_ ?_ ?_ ?_ ?_ | refine And.intro ?_ ?_ | with_reducible rfl | exact Nat.le_of_ble_eq_true rfl | refine fr1 ?_ | refine fr2 ?_ ?_ | refine AV.int_congr ?_ | refine AV.bool_congr ?_ | refine AV.str_congr ?_ | refine AV.list_congr ?_ | refine AV.bsl_congr ?_ ?_ | (apply rfl)
    · rw [strs_append, strs_append]; rfl
    · rw [wrap64 (by omega) (by omega)]; rfl
    · simp
  · have hb := ‹(!d && !Op.bytesLess (l.getD i []) s) = true›
    have he := ‹l.getD i [] = s›
    obtain ⟨rfl, hlt⟩ : d = false ∧ blt (l.getD i []) s = false := by revert hb; cases d <;> simp [blt]
    rw [ins_drop [] false (by omega), if_neg (by simp), if_neg (by rw [hlt]; simp), if_neg (by rw [he, blt_sto.irrefl]; simp)] at h3
    refine ⟨(i + 1, o ++ [l.getD i []], true), ⟨by omega, ⟨by have := h2.2 rfl; simp; omega, by simp⟩, by simpa using h3⟩, ?_, by simp only; omega⟩
    repeat' first
      | exact trivial | refine Weak.mk ?_ ?_ ?_ ?_ (Or.inl (Nat.le_of_ble_eq_true rfl)) | refine Weak.mk ?_ ?_ ?_ ?_ (Or.inr ⟨(by repeat' first | exact trivial | exact Nat.le_of_ble_eq_true rfl | refine And.intro ?_ ?_), (by repeat' first | exact trivial | exact Nat.le_of_ble_eq_true rfl | refine And.intro ?_ ?_)⟩) | refine Weak.mk ?_ ?_ ?_ ?_ ?_ | refine And.intro ?_ ?_ | with_reducible rfl | exact Nat.le_of_ble_eq_true rfl | refine fr1 ?_ | refine fr2 ?_ ?_ | refine AV.int_congr ?_ | refine AV.bool_congr ?_ | refine AV.str_congr ?_ | refine AV.list_congr ?_ | refine AV.bsl_congr ?_ ?_ | (apply rfl)
    · rw [strs_append]; rfl
    · rw [wrap64 (by omega) (by omega)]; rfl
    · simp
  · have hb := ‹(!d && !Op.bytesLess (l.getD i []) s) = false›
    rw [ins_drop [] d (by omega)] at h3
    refine ⟨(i + 1, o ++ [l.getD i []], d), ⟨by omega, ⟨by simp; omega, fun hd => by have := h2.2 hd; simp; omega⟩, ?_⟩, ?_, by simp only; omega⟩
    · cases d with
      | true => rw [if_pos rfl] at h3; simpa using h3
      | false =>
        have hlt : blt (l.getD i []) s = true := by revert hb; simp [blt]
        rw [if_neg (by simp), if_pos hlt] at h3; simpa using h3
    repeat' first
      | exact trivial | refine Weak.mk ?_ ?_ ?_ ?_ (Or.inl (Nat.le_of_ble_eq_true rfl)) | refine Weak.mk ?_ ?_ ?_ ?_ (Or.inr ⟨(by repeat' first | exact trivial | exact Nat.le_of_ble_eq_true rfl | refine And.intro ?_ ?_), (by repeat' first | exact trivial | exact Nat.le_of_ble_eq_true rfl | refine And.intro ?_ ?_)⟩) | refine Weak.mk ?_ ?_ ?_ ?_ ?_ | refine And.intro ?_ ?_ | with_reducible rfl | exact Nat.le_of_ble_eq_true rfl | refine fr1 ?_ | refine fr2 ?_ ?_ | refine AV.int_congr ?_ | refine AV.bool_congr ?_ | refine AV.str_congr ?_ | refine AV.list_congr ?_ | refine AV.bsl_congr ?_ ?_ | (apply rfl)
    · rw [strs_append]; rfl
    · rw [wrap64 (by omega) (by omega)]; rfl
    · simp
  all_goals rw [List.drop_of_length_le (by omega)] at h3
  · have hd := ‹d = false›
    subst hd
    rw [← h3, strs_append]; rfl
  · have hd := ‹d = false›
    subst hd
    rw [← h3]; simp [ins]
  · have hd := ‹d = true›
    subst hd
    rw [← h3]; simp [ins]
  · have hd := ‹d = true›
    subst hd
    rw [← h3]; simp [ins]
/-- the texts so far, one list for each round -/
def accS (l : List Str) (i : Nat) : List Str := insAll blt (l.take i)
def frS (l : List Str) (i : Nat) : Fr := (List.range (i + 1)).map fun k => (9, 1, (accS l k).length)
theorem frS_succ (l : List Str) (i : Nat) : frS l (i + 1) = frS l i ++ [(9, 1, (accS l (i + 1)).length)] := by
  unfold frS; rw [List.range_succ (n := i + 1), List.map_append]; rfl
theorem frS_len (l : List Str) (i : Nat) : (frS l i).length = i + 1 := by simp [frS]
theorem srt_asc (l : List Str) : (srt l).Pairwise fun x y => blt y x = false := by
  have h := List.pairwise_mergeSort (le := fun x y : Str => decide (x ≤ y)) (fun a b c h1 h2 => by simp at *; exact List.le_trans h1 h2) (fun a b => by simp; exact List.le_total a b) l
  exact h.imp fun {x y} hxy => by rw [blt_eq, decide_eq_false_iff_not]; simpa using hxy
theorem srt_mem (l : List Str) (x : Str) : x ∈ srt l ↔ x ∈ l := List.mem_mergeSort
theorem compact_srt (l : List Str) : Lib.compact (srt l) = insAll blt l := by
  obtain ⟨h1, h2⟩ := compact_asc blt_sto (srt l) (srt_asc l)
  exact Asc.unique blt_sto h1 (insAll_asc blt_sto l) fun x => by rw [h2, srt_mem, insAll_mem blt_sto]
theorem slClone.own (l : List Str) (h : l.length ≤ 1048576) : slClone.Own [.list none (strs l)] (strT l) :=
  (slClone.ret l h).own [0] (.l _ _ _ 0 (strs l) (by simp) (by simp) (fun e he => by obtain ⟨s, _, rfl⟩ := List.mem_map.1 he; rfl) (strs_sz _) (own_strs _ l) .nil) (by simp)
theorem pSortedTexts.ret (l : List Str) (h : l.length ≤ 1048576) : pSortedTexts.Ret [.list none (strs l)] (.list (some 0) (strs (insAll blt l))) [(9, 1, (insAll blt l).length)] := by
  refine pSortedTexts.of rfl ?_
  conv => whnf
  refine ACall.unb [.list none (strs l)] (strT l) (slClone.own l h) (.cons (SeesB.of0 (Sees0.olds _ _)) .nil) ?_
  rw [gv_strT, gb_strT]
  conv => whnf
  refine ACall.ctx rfl _ _ _ (slSort.ctx [.cells (.row 9 1) (l.map .str)] 0 l rfl (by omega)) (.lend _ _ noTk_texts .nil) (.cons (.inl ⟨rfl, rfl⟩) .nil) ?_
  rintro r b1 ⟨rfl, rfl⟩
  have hlen : (srt l).length = l.length := List.length_mergeSort _
  conv => whnf
  refine ACall.ctx rfl _ _ _ (slCompact.ctx [.cells (.row 9 1) ((srt l).map .str)] 0 (srt l) rfl (by omega)) (.lend _ _ noTk_texts .nil) (.cons (.inl ⟨by rw [hlen]; rfl, rfl⟩) .nil) ?_
  rintro r b1 ⟨rfl, rfl⟩
  rw [compact_srt]
  conv => whnf
  refine FreezeD.flat (Freeze.mk (strs (insAll blt l)) ((insAll blt l).map .str) 9 1 rfl (strs_flatten _).symm (by simp) (strs_sz _) (fun c hc => ?_) ?_)
  · obtain ⟨s, _, rfl⟩ := List.mem_map.1 hc; rfl
  · exact Final.mk rfl rfl
end Go.Proofs.YtimcfgokocihnaaGreat
namespace Go.Proofs.YtimcfgokocihnaaGreat
open Abs
def sIsCond.code : ACode := (.seq (.region false [s 1 (.box (t 0)), s 2 (.mv (.const (.bool false)))]) (.seq (.seq (.region false [s 3 (.fadr 0 (t 1)), s 4 (.load false 1 (t 3))]) (.block 0 (.seq (.seq (.region false [s 6 (.bin .eql (t 4) (.const (.int .i64 1))), s 5 (.mv (t 6))]) (.cond (t 5) .skip (.region false [s 7 (.bin .eql (t 4) (.const (.int .i64 2))), s 5 (.mv (t 7))]))) (.cond (t 5) (.seq (.region false [s 8 (.fadr 1 (t 1)), s 9 (.load true 2 (t 8)), s 10 (.call 50 [(t 9)]), s 11 (.mv (t 10)), g 11 true 12 (.fadr 3 (t 1)), g 11 true 13 (.load false 1 (t 12)), g 11 true 14 (.bin .eql (t 13) (.const (.string (.mk #[])))), s 15 (.and (t 11) (t 14)), s 16 (.mv (t 15)), g 16 true 17 (.fadr 4 (t 1)), g 16 true 18 (.load false 1 (t 17)), g 16 true 19 (.bin .eql (t 18) (.const (.string (.mk #[])))), s 20 (.and (t 16) (t 19)), s 2 (.mv (t 20))]) .ret) (.seq (.seq (.region false [s 22 (.bin .eql (t 4) (.const (.int .i64 3))), s 21 (.mv (t 22))]) (.cond (t 21) .skip (.seq (.region false [s 23 (.bin .eql (t 4) (.const (.int .i64 4))), s 21 (.mv (t 23))]) (.cond (t 21) .skip (.region false [s 24 (.bin .eql (t 4) (.const (.int .i64 5))), s 21 (.mv (t 24))]))))) (.cond (t 21) (.seq (.region false [s 25 (.fadr 1 (t 1)), s 26 (.fadr 0 (t 25)), s 27 (.load false 1 (t 26)), s 28 (.bin .eql (t 27) (.const (.string (.mk #[])))), s 29 (.mv (t 28)), g 29 true 30 (.fadr 1 (t 1)), g 29 true 31 (.fadr 1 (t 30)), g 29 true 32 (.load false 1 (t 31)), g 29 true 33 (.len false (t 32)), g 29 true 34 (.bin .eql (t 33) (.const (.int .i64 0))), s 35 (.and (t 29) (t 34)), s 36 (.mv (t 35)), g 36 true 37 (.fadr 3 (t 1)), g 36 true 38 (.load false 1 (t 37)), g 36 true 39 (.call 51 [(t 38)]), s 40 (.and (t 36) (t 39)), s 41 (.mv (t 40)), g 41 true 42 (.fadr 4 (t 1)), g 41 true 43 (.load false 1 (t 42)), g 41 true 44 (.call 51 [(t 43)]), s 45 (.and (t 41) (t 44)), s 2 (.mv (t 45))]) .ret) .skip)))))) (.seq (.region false [s 2 (.mv (.const (.bool false)))]) .ret)))
def sIsCond.keep : List Nat := [0, 1, 2, 4, 5, 21]
def sIsCond.res : List RRes := [.tmp 2]
theorem sIsCond.of {mo : Bool} {args : List AV} {r : AV} {frs : Fr} (hn : Nat.ble args.length Tryz.f23.ntmps = true) (h : aCode (Kn mo Tryz.prog) sIsCond.keep 0 sIsCond.code (doneK sIsCond.res r frs) ⟨argEnv 0 args, [], []⟩) : Abs.Ret mo Tryz.prog 23 args r frs :=
  Abs.Ret.of_ir Tryz.func23 rfl (by kernel_rfl) (Nat.le_of_ble_eq_true hn) (by kernel_rfl) (by kernel_rfl) h
abbrev sIsCond.Ret (args : List AV) (r : AV) (frs : Fr) : Prop := Abs.Ret true Tryz.prog 23 args r frs
def pIsCond.code : ACode := (.seq (.region false [s 1 (.box (t 0)), s 2 (.mv (.const (.bool false)))]) (.seq (.seq (.region false [s 3 (.fadr 0 (t 1)), s 4 (.load false 1 (t 3))]) (.block 0 (.seq (.seq (.region false [s 6 (.bin .eql (t 4) (.const (.int .i64 1))), s 5 (.mv (t 6))]) (.cond (t 5) .skip (.region false [s 7 (.bin .eql (t 4) (.const (.int .i64 2))), s 5 (.mv (t 7))]))) (.cond (t 5) (.seq (.region false [s 8 (.fadr 1 (t 1)), s 9 (.load true 2 (t 8)), s 10 (.call 73 [(t 9)]), s 11 (.mv (t 10)), g 11 true 12 (.fadr 3 (t 1)), g 11 true 13 (.load false 1 (t 12)), g 11 true 14 (.bin .eql (t 13) (.const (.string (.mk #[])))), s 15 (.and (t 11) (t 14)), s 16 (.mv (t 15)), g 16 true 17 (.fadr 4 (t 1)), g 16 true 18 (.load false 1 (t 17)), g 16 true 19 (.bin .eql (t 18) (.const (.string (.mk #[])))), s 20 (.and (t 16) (t 19)), s 2 (.mv (t 20))]) .ret) .skip)))) (.seq (.region false [s 21 (.load true 5 (t 1)), s 22 (.call 74 [(t 21)]), s 2 (.mv (t 22))]) .ret)))
def pIsCond.keep : List Nat := [0, 1, 2, 4, 5]
def pIsCond.res : List RRes := [.tmp 2]
theorem pIsCond.ofS {mo : Bool} {args : List AV} {r : AV} (hr : isScalR r = true) (hn : Nat.ble args.length Tryz.f57.ntmps = true) (h : aCode (Kn mo Tryz.prog) pIsCond.keep 0 pIsCond.code (doneS pIsCond.res r) ⟨argEnv 0 args, [], []⟩) : Abs.Ret mo Tryz.prog 57 args r [] :=
  Abs.Ret.of_irS hr Tryz.func57 rfl (by kernel_rfl) (Nat.le_of_ble_eq_true hn) (by kernel_rfl) (by kernel_rfl) h
abbrev pIsCond.Ret (args : List AV) (r : AV) (frs : Fr) : Prop := Abs.Ret true Tryz.prog 57 args r frs
def sIsTest.code : ACode := (.seq (.region false [s 1 (.box (t 0)), s 2 (.mv (.const (.bool false)))]) (.seq (.region false [s 3 (.load true 5 (t 1)), s 4 (.call 23 [(t 3)]), s 5 (.mv (t 4)), g 5 true 6 (.fadr 0 (t 1)), g 5 true 7 (.load false 1 (t 6)), g 5 true 8 (.bin .geq (t 7) (.const (.int .i64 3))), s 9 (.and (t 5) (t 8)), s 2 (.mv (t 9))]) .ret))
def sIsTest.keep : List Nat := [0, 1, 2]
def sIsTest.res : List RRes := [.tmp 2]
theorem sIsTest.of {mo : Bool} {args : List AV} {r : AV} {frs : Fr} (hn : Nat.ble args.length Tryz.f26.ntmps = true) (h : aCode (Kn mo Tryz.prog) sIsTest.keep 0 sIsTest.code (doneK sIsTest.res r frs) ⟨argEnv 0 args, [], []⟩) : Abs.Ret mo Tryz.prog 26 args r frs :=
  Abs.Ret.of_ir Tryz.func26 rfl (by kernel_rfl) (Nat.le_of_ble_eq_true hn) (by kernel_rfl) (by kernel_rfl) h
abbrev sIsTest.Ret (args : List AV) (r : AV) (frs : Fr) : Prop := Abs.Ret true Tryz.prog 26 args r frs
def pIsTest.code : ACode := (.seq (.region false [s 1 (.box (t 0)), s 2 (.mv (.const (.bool false)))]) (.seq (.region false [s 6 (.fadr 0 (t 1)), s 7 (.load false 1 (t 6)), s 8 (.call 92 [(t 7)]), s 5 (.mv (t 8)), s 9 (.extract (t 5) 0), s 10 (.extract (t 5) 1), s 3 (.alloc [(.int .i64 (.ofNat 0)), (.string (.mk (.mk []))), .nilFunc]), ⟨none, none, (.store 3 (t 3) (t 9))⟩, s 4 (.mv (t 10))]) (.seq (.region false [s 11 (.mv (t 4)), s 12 (.mv (t 11)), g 12 true 13 (.fadr 3 (t 1)), g 12 true 14 (.load false 1 (t 13)), g 12 true 15 (.call 91 [(t 14)]), s 16 (.and (t 12) (t 15)), s 17 (.mv (t 16)), g 17 true 18 (.fadr 4 (t 1)), g 17 true 19 (.load false 1 (t 18)), g 17 true 20 (.call 91 [(t 19)]), s 21 (.and (t 17) (t 20)), s 22 (.mv (t 21)), g 22 true 23 (.fadr 1 (t 1)), g 22 true 24 (.load true 2 (t 23)), g 22 true 25 (.build [(.string (.mk (.mk []))), (.slice none 0 0)] [] []), g 22 true 26 (.call 75 [(t 24), (t 25)]), s 27 (.and (t 22) (t 26)), s 2 (.mv (t 27))]) .ret)))
def pIsTest.keep : List Nat := [0, 1, 2, 4]
def pIsTest.res : List RRes := [.tmp 2]
theorem pIsTest.ofS {mo : Bool} {args : List AV} {r : AV} (hr : isScalR r = true) (hn : Nat.ble args.length Tryz.f74.ntmps = true) (h : aCode (Kn mo Tryz.prog) pIsTest.keep 0 pIsTest.code (doneS pIsTest.res r) ⟨argEnv 0 args, [], []⟩) : Abs.Ret mo Tryz.prog 74 args r [] :=
  Abs.Ret.of_irS hr Tryz.func74 rfl (by kernel_rfl) (Nat.le_of_ble_eq_true hn) (by kernel_rfl) (by kernel_rfl) h
abbrev pIsTest.Ret (args : List AV) (r : AV) (frs : Fr) : Prop := Abs.Ret true Tryz.prog 74 args r frs
def sCondVars.code : ACode := (.seq (.region false [s 1 (.box (t 0)), s 2 (.mv (.const (.slice none 0 0)))]) (.seq (.region false [s 4 (.fadr 1 (t 1)), s 5 (.load true 2 (t 4)), s 6 (.call 29 [(t 5)]), s 3 (.mv (t 6))]) (.seq (.seq (.region false [s 7 (.fadr 3 (t 1)), s 8 (.load false 1 (t 7)), s 9 (.call 52 [(t 8)])]) (.cond (t 9) (.region false [s 10 (.mv (t 3)), s 11 (.fadr 3 (t 1)), s 12 (.load false 1 (t 11)), s 13 (.call 49 [(t 10), (t 12)]), s 3 (.mv (t 13))]) .skip)) (.seq (.seq (.region false [s 14 (.fadr 4 (t 1)), s 15 (.load false 1 (t 14)), s 16 (.call 52 [(t 15)])]) (.cond (t 16) (.region false [s 17 (.mv (t 3)), s 18 (.fadr 4 (t 1)), s 19 (.load false 1 (t 18)), s 20 (.call 49 [(t 17), (t 19)]), s 3 (.mv (t 20))]) .skip)) (.seq (.region false [s 21 (.mv (t 3)), s 2 (.mv (t 21))]) .ret)))))
def sCondVars.keep : List Nat := [0, 1, 2, 3]
def sCondVars.res : List RRes := [.tmp 2]
abbrev sCondVars.Own (args : List AV) (x : Tr) : Prop := Abs.Own true Tryz.prog 24 args x
def pCondVars.code : ACode := (.seq (.region false [s 1 (.box (t 0)), s 2 (.mv (.const (.slice none 0 0)))]) (.seq (.region false [s 3 (.fadr 1 (t 1)), s 4 (.fadr 1 (t 3)), s 5 (.load false 1 (t 4)), s 6 (.fadr 3 (t 1)), s 7 (.load false 1 (t 6)), s 8 (.fadr 4 (t 1)), s 9 (.load false 1 (t 8)), s 10 (.bslice 9 1 true [(t 7), (t 9)]), s 11 (.bslice 46 1 true [(t 5), (t 10)]), s 12 (.call 83 [(t 11)]), s 13 (.call 82 [(t 12)]), s 2 (.mv (t 13))]) .ret))
def pCondVars.keep : List Nat := [0, 1, 2]
def pCondVars.res : List RRes := [.tmp 2]
theorem pCondVars.of {mo : Bool} {args : List AV} {r : AV} {frs : Fr} (hn : Nat.ble args.length Tryz.f64.ntmps = true) (h : aCode (Kn mo Tryz.prog) pCondVars.keep 0 pCondVars.code (doneK pCondVars.res r frs) ⟨argEnv 0 args, [], []⟩) : Abs.Ret mo Tryz.prog 64 args r frs :=
  Abs.Ret.of_ir Tryz.func64 rfl (by kernel_rfl) (Nat.le_of_ble_eq_true hn) (by kernel_rfl) (by kernel_rfl) h
abbrev pCondVars.Own (args : List AV) (x : Tr) : Prop := Abs.Own true Tryz.prog 64 args x
abbrev pCondVars.Ret (args : List AV) (r : AV) (frs : Fr) : Prop := Abs.Ret true Tryz.prog 64 args r frs
def pcomparisons.code : ACode := (.seq (.region false [s 0 (.mv (.const (.slice none 0 0)))]) (.seq (.region false [s 1 (.build [(.int .i64 (.ofNat 0)), (.string (.mk (.mk []))), .nilFunc] [(0, 1), (1, 1), (2, 1)] [(.const (.int .i64 3)), (.const (.string (.mk #[61]))), (.func 114)]), s 2 (.build [(.int .i64 (.ofNat 0)), (.string (.mk (.mk []))), .nilFunc] [(0, 1), (1, 1), (2, 1)] [(.const (.int .i64 4)), (.const (.string (.mk #[33, 61]))), (.func 115)]), s 3 (.build [(.int .i64 (.ofNat 0)), (.string (.mk (.mk []))), .nilFunc] [(0, 1), (1, 1), (2, 1)] [(.const (.int .i64 5)), (.const (.string (.mk #[60]))), (.func 116)]), s 4 (.bslice 100 3 true [(t 1), (t 2), (t 3)]), s 0 (.mv (t 4))]) .ret))
def pcomparisons.keep : List Nat := [0]
def pcomparisons.res : List RRes := [.tmp 0]
theorem pcomparisons.of {mo : Bool} {args : List AV} {r : AV} {frs : Fr} (hn : Nat.ble args.length Tryz.f101.ntmps = true) (h : aCode (Kn mo Tryz.prog) pcomparisons.keep 0 pcomparisons.code (doneK pcomparisons.res r frs) ⟨argEnv 0 args, [], []⟩) : Abs.Ret mo Tryz.prog 101 args r frs :=
  Abs.Ret.of_ir Tryz.func101 rfl (by kernel_rfl) (Nat.le_of_ble_eq_true hn) (by kernel_rfl) (by kernel_rfl) h
abbrev pcomparisons.Ret (args : List AV) (r : AV) (frs : Fr) : Prop := Abs.Ret true Tryz.prog 101 args r frs
def pcomparisonOf.code : ACode := (.seq (.region false [s 2 (.alloc [(.int .i64 (.ofNat 0)), (.string (.mk (.mk []))), .nilFunc]), s 3 (.mv (.const (.bool false)))]) (.seq (.seq (.region false [s 6 (.call 101 []), s 7 (.len false (t 6)), s 8 (.mv (.const (.int .i64 0)))]) (.block 0 (.loop (.seq (.region false [s 9 (.bin .lss (t 8) (t 7))]) (.seq (.cond (t 9) .skip (.exit 0)) (.seq (.block 1 (.seq (.region false [s 10 (.iadr 3 (t 6) (t 8)), s 11 (.load true 3 (t 10)), s 5 (.alloc [(.int .i64 (.ofNat 0)), (.string (.mk (.mk []))), .nilFunc]), ⟨none, none, (.store 3 (t 5) (t 11))⟩]) (.seq (.region false [s 12 (.fadr 0 (t 5)), s 13 (.load false 1 (t 12)), s 14 (.mv (t 0)), s 15 (.bin .eql (t 13) (t 14))]) (.cond (t 15) (.seq (.region false [s 16 (.load true 3 (t 5)), ⟨none, none, (.store 3 (t 2) (t 16))⟩, s 3 (.mv (.const (.bool true)))]) .ret) .skip)))) (.region false [s 17 (.bin .add (t 8) (.const (.int .i64 1))), s 8 (.mv (t 17))]))))))) (.seq (.region false [s 18 (.build [(.int .i64 (.ofNat 0)), (.string (.mk (.mk []))), .nilFunc] [] []), ⟨none, none, (.store 3 (t 2) (t 18))⟩, s 3 (.mv (.const (.bool false)))]) .ret)))
def pcomparisonOf.keep : List Nat := [0, 2, 3, 5, 6, 7, 8, 9]
def pcomparisonOf.res : List RRes := [.cell 2 true 3, .tmp 3]
theorem pcomparisonOf.of {mo : Bool} {args : List AV} {r : AV} {frs : Fr} (hn : Nat.ble args.length Tryz.f92.ntmps = true) (h : aCode (Kn mo Tryz.prog) pcomparisonOf.keep 0 pcomparisonOf.code (doneK pcomparisonOf.res r frs) ⟨argEnv 0 args, [], []⟩) : Abs.Ret mo Tryz.prog 92 args r frs :=
  Abs.Ret.of_ir Tryz.func92 rfl (by kernel_rfl) (Nat.le_of_ble_eq_true hn) (by kernel_rfl) (by kernel_rfl) h
abbrev pcomparisonOf.Ret (args : List AV) (r : AV) (frs : Fr) : Prop := Abs.Ret true Tryz.prog 92 args r frs
def pvarsAmong.code : ACode := (.seq (.region false [s 2 (.mv (.const (.slice none 0 0)))]) (.seq (.region false [s 6 (.bslice 9 1 true []), s 3 (.mv (t 6))]) (.seq (.seq (.region false [s 7 (.mv (t 0)), s 8 (.len false (t 7)), s 9 (.mv (.const (.int .i64 0)))]) (.block 0 (.loop (.seq (.region false [s 10 (.bin .lss (t 9) (t 8))]) (.seq (.cond (t 10) .skip (.exit 0)) (.seq (.block 1 (.seq (.region false [s 11 (.iadr 1 (t 7) (t 9)), s 12 (.load false 1 (t 11)), s 5 (.mv (t 12))]) (.seq (.region false [s 13 (.mv (t 5)), s 14 (.call 96 [(t 13)])]) (.cond (t 14) (.region false [s 15 (.mv (t 3)), s 16 (.mv (t 5)), s 17 (.bslice 9 1 false [(t 16)]), s 18 (.append 9 1 16 (t 15) (t 17)), s 3 (.mv (t 18))]) .skip)))) (.region false [s 19 (.bin .add (t 9) (.const (.int .i64 1))), s 9 (.mv (t 19))]))))))) (.seq (.region false [s 20 (.mv (t 3)), s 21 (.call 65 [(t 20)]), s 2 (.mv (t 21))]) .ret))))
def pvarsAmong.keep : List Nat := [0, 2, 3, 5, 7, 8, 9, 10]
def pvarsAmong.res : List RRes := [.tmp 2]
theorem pvarsAmong.of {mo : Bool} {args : List AV} {r : AV} {frs : Fr} (hn : Nat.ble args.length Tryz.f82.ntmps = true) (h : aCode (Kn mo Tryz.prog) pvarsAmong.keep 0 pvarsAmong.code (doneK pvarsAmong.res r frs) ⟨argEnv 0 args, [], []⟩) : Abs.Ret mo Tryz.prog 82 args r frs :=
  Abs.Ret.of_ir Tryz.func82 rfl (by kernel_rfl) (Nat.le_of_ble_eq_true hn) (by kernel_rfl) (by kernel_rfl) h
abbrev pvarsAmong.Ret (args : List AV) (r : AV) (frs : Fr) : Prop := Abs.Ret true Tryz.prog 82 args r frs
def slConcat.code : ACode := (.seq (.region false [s 2 (.mv (.const (.slice none 0 0)))]) (.seq (.region false [s 3 (.mv (.const (.int .i64 0)))]) (.seq (.seq (.region false [s 9 (.mv (t 0)), s 10 (.len false (t 9)), s 11 (.mv (.const (.int .i64 0)))]) (.block 0 (.loop (.seq (.region false [s 12 (.bin .lss (t 11) (t 10))]) (.seq (.cond (t 12) .skip (.exit 0)) (.seq (.block 1 (.seq (.region false [s 13 (.iadr 1 (t 9) (t 11)), s 14 (.load false 1 (t 13)), s 5 (.mv (t 14))]) (.seq (.region false [s 15 (.mv (t 3)), s 16 (.mv (t 5)), s 17 (.len false (t 16)), s 18 (.bin .add (t 15) (t 17)), s 3 (.mv (t 18))]) (.seq (.region false [s 19 (.mv (t 3)), s 20 (.bin .lss (t 19) (.const (.int .i64 0)))]) (.cond (t 20) (.region false [s 21 .other, ⟨none, none, .other⟩]) .skip))))) (.region false [s 22 (.bin .add (t 11) (.const (.int .i64 1))), s 11 (.mv (t 22))]))))))) (.seq (.region false [s 23 (.mv (t 3)), s 24 (.call 97 [(.const (.slice none 0 0)), (t 23)]), s 6 (.mv (t 24))]) (.seq (.seq (.region false [s 25 (.mv (t 0)), s 26 (.len false (t 25)), s 27 (.mv (.const (.int .i64 0)))]) (.block 2 (.loop (.seq (.region false [s 28 (.bin .lss (t 27) (t 26))]) (.seq (.cond (t 28) .skip (.exit 2)) (.seq (.block 3 (.seq (.region false [s 29 (.iadr 1 (t 25) (t 27)), s 30 (.load false 1 (t 29)), s 8 (.mv (t 30))]) (.region false [s 31 (.mv (t 6)), s 32 (.mv (t 8)), s 33 (.append 9 1 16 (t 31) (t 32)), s 6 (.mv (t 33))]))) (.region false [s 34 (.bin .add (t 27) (.const (.int .i64 1))), s 27 (.mv (t 34))]))))))) (.seq (.region false [s 35 (.mv (t 6)), s 2 (.mv (t 35))]) .ret))))))
def slConcat.keep : List Nat := [0, 2, 3, 5, 6, 8, 9, 10, 11, 12, 25, 26, 27, 28]
def slConcat.res : List RRes := [.tmp 2]
theorem slConcat.of {mo : Bool} {args : List AV} {r : AV} {frs : Fr} (hn : Nat.ble args.length Tryz.f83.ntmps = true) (h : aCode (Kn mo Tryz.prog) slConcat.keep 0 slConcat.code (doneK slConcat.res r frs) ⟨argEnv 0 args, [], []⟩) : Abs.Ret mo Tryz.prog 83 args r frs :=
  Abs.Ret.of_ir Tryz.func83 rfl (by kernel_rfl) (Nat.le_of_ble_eq_true hn) (by kernel_rfl) (by kernel_rfl) h
abbrev slConcat.Ret (args : List AV) (r : AV) (frs : Fr) : Prop := Abs.Ret true Tryz.prog 83 args r frs
abbrev slGrow.Ret (args : List AV) (r : AV) (frs : Fr) : Prop := Abs.Ret true Tryz.prog 97 args r frs
end Go.Proofs.YtimcfgokocihnaaGreat
