/-
  What stands below some laws' proofs, part 3: contracts of functions, by an evaluator.
-/
import Derived.Test.YtiloafmpienmhaaGreatZA2
namespace Go.Proofs.YtiloafmpienmhaaGreat
open Abs
def sIsAction.code : ACode := (q_ (r_ [s 1 (.box (t 0)), s 2 mf_]) (q_ (q_ (r_ [s 3 (f_ 0 1), s 4 (l_ 3)]) (.block 0 (q_ (q_ (r_ [s 6 (.bin .eql (t 4) (i_ 1)), v_ 5 6]) (.cond (t 5) .skip (r_ [s 7 (.bin .eql (t 4) (i_ 2)), v_ 5 7]))) (.cond (t 5) (q_ (r_ [s 8 (f_ 1 1), s 9 (a_ 2 8), s 10 (.call 196 [t 9]), v_ 2 10]) .ret) (q_ (r_ [s 12 (.bin .eql (t 4) (i_ 3)), v_ 11 12]) (.cond (t 11) (q_ (r_ [s 13 (f_ 1 1), s 14 (f_ 0 13), s 15 (l_ 14), s 16 (.bin .eql (t 15) (.const (.string (.mk #[])))), v_ 17 16, g 17 true 18 (f_ 1 1), g 17 true 19 (f_ 1 18), g 17 true 20 (l_ 19), g 17 true 21 (.len false (t 20)), g 17 true 22 (.bin .eql (t 21) (i_ 0)), s 23 (.and (t 17) (t 22)), v_ 2 23]) .ret) .skip)))))) (q_ (r_ [s 2 mf_]) .ret)))
theorem sIsAction.ir : IrAt Tryz.prog 159 sIsAction.code [0, 1, 2, 4, 5] [.tmp 2] Tryz.f159.ntmps := ir_ Tryz.func159
abbrev sIsAction.Ret (args : List AV) (r : AV) (frs : Fr) : Prop := Abs.Ret true Tryz.prog 159 args r frs
def pIsAction.code : ACode := (q_ (r_ [s 1 (.box (t 0)), s 2 mf_]) (q_ (q_ (r_ [s 3 (f_ 0 1), s 4 (l_ 3)]) (.block 0 (q_ (q_ (r_ [s 6 (.bin .eql (t 4) (i_ 1)), v_ 5 6]) (.cond (t 5) .skip (r_ [s 7 (.bin .eql (t 4) (i_ 2)), v_ 5 7]))) (.cond (t 5) (q_ (r_ [s 8 (f_ 1 1), s 9 (a_ 2 8), s 10 (.call 221 [t 9]), v_ 2 10]) .ret) (q_ (r_ [s 12 (.bin .eql (t 4) (i_ 3)), v_ 11 12]) (.cond (t 11) (q_ (r_ [s 13 (f_ 1 1), s 14 (a_ 2 13), s 15 (.build [(.string (.mk (.mk []))), (.slice none 0 0)] [] []), s 16 (.call 223 [t 14, t 15]), v_ 2 16]) .ret) .skip)))))) (q_ (r_ [s 2 mf_]) .ret)))
theorem pIsAction.ir : IrAt Tryz.prog 206 pIsAction.code [0, 1, 2, 4, 5] [.tmp 2] Tryz.f206.ntmps := ir_ Tryz.func206
abbrev pIsAction.Ret (args : List AV) (r : AV) (frs : Fr) : Prop := Abs.Ret true Tryz.prog 206 args r frs
def sBoundVars.code : ACode := (q_ (r_ [s 2 (.box (t 0)), s 4 (.mv (.const (.slice none 0 0)))]) (q_ (r_ [s 9 (.bslice 9 1 true []), v_ 5 9]) (q_ (q_ (r_ [s 6 (.mv (i_ 0))]) (.block 0 (.loop (q_ (q_ (r_ [v_ 10 6, s 11 (f_ 2 2), s 12 (l_ 11), s 13 (.len false (t 12)), s 14 (.bin .lss (t 10) (t 13)), v_ 15 14, g 15 true 16 (.mv (t 6)), g 15 true 17 (.mv (t 1)), g 15 true 18 (.bin .lss (t 16) (t 17)), s 19 (.and (t 15) (t 18))]) (.cond (t 19) .skip (.exit 0))) (q_ (.block 1 (q_ (r_ [s 22 (f_ 2 2), s 23 (l_ 22), v_ 24 6, s 25 (.iadr 5 (t 23) (t 24)), s 26 (f_ 0 25), s 27 (l_ 26), s 28 (.bin .eql (t 27) (i_ 1))]) (.cond (t 28) (q_ (r_ [s 29 (f_ 2 2), s 30 (l_ 29), v_ 31 6, s 32 (.iadr 5 (t 30) (t 31)), s 33 (f_ 1 32), s 34 (a_ 2 33), s 35 (.call 160 [t 34]), v_ 7 35]) (q_ (r_ [s 8 (.mv (i_ 0))]) (.block 2 (.loop (q_ (q_ (r_ [v_ 36 8, v_ 37 7, s 38 (.len false (t 37)), s 39 (.bin .lss (t 36) (t 38))]) (.cond (t 39) .skip (.exit 2))) (q_ (.block 3 (r_ [v_ 42 5, v_ 43 7, v_ 44 8, s 45 (.iadr 1 (t 43) (t 44)), s 46 (l_ 45), s 47 (.call 195 [t 42, t 46]), v_ 5 47])) (r_ [v_ 40 8, s 41 (.bin .add (t 40) (i_ 1)), v_ 8 41]))))))) .skip))) (r_ [v_ 20 6, s 21 (.bin .add (t 20) (i_ 1)), v_ 6 21])))))) (q_ (r_ [v_ 48 5, v_ 4 48]) .ret))))
theorem sBoundVars.ir : IrAt Tryz.prog 153 sBoundVars.code [0, 1, 2, 4, 5, 6, 7, 8] [.tmp 4] Tryz.f153.ntmps := ir_ Tryz.func153
abbrev sBoundVars.Own (args : List AV) (x : Tr) : Prop := Abs.Own true Tryz.prog 153 args x
def pBoundVars.code : ACode := (q_ (r_ [s 2 (.box (t 0)), s 4 (.mv (.const (.slice none 0 0)))]) (q_ (r_ [s 8 (.bslice 9 1 true []), v_ 5 8]) (q_ (q_ (r_ [s 9 (f_ 2 2), s 10 (l_ 9), v_ 11 1, s 12 (.mm true (t 11) (i_ 0)), s 13 (f_ 2 2), s 14 (l_ 13), s 15 (.len false (t 14)), s 16 (.mm false (t 12) (t 15)), s 17 (.slice false 5 (t 10) none (some (t 16))), s 18 (.len false (t 17)), s 19 (.mv (i_ 0))]) (.block 0 (.loop (q_ (r_ [s 20 (.bin .lss (t 19) (t 18))]) (q_ (.cond (t 20) .skip (.exit 0)) (q_ (.block 1 (q_ (r_ [s 21 (.iadr 5 (t 17) (t 19)), s 22 (a_ 5 21), s 7 (.alloc [(.int .i64 (.ofNat 0)), (.string (.mk (.mk []))), (.slice none 0 0), (.string (.mk (.mk []))), (.string (.mk (.mk [])))]), ⟨none, none, (.store 5 (t 7) (t 22))⟩]) (q_ (r_ [s 23 (f_ 0 7), s 24 (l_ 23), s 25 (.bin .eql (t 24) (i_ 1))]) (.cond (t 25) (r_ [v_ 26 5, s 27 (f_ 1 7), s 28 (a_ 2 27), s 29 (.call 211 [t 28]), s 30 (.append 9 1 16 (t 26) (t 29)), v_ 5 30]) .skip)))) (r_ [s 31 (.bin .add (t 19) (i_ 1)), v_ 19 31]))))))) (q_ (r_ [v_ 32 5, s 33 (.call 213 [t 32]), v_ 4 33]) .ret))))
theorem pBoundVars.ir : IrAt Tryz.prog 208 pBoundVars.code [0, 1, 2, 4, 5, 7, 17, 18, 19, 20] [.tmp 4] Tryz.f208.ntmps := ir_ Tryz.func208
abbrev pBoundVars.Own (args : List AV) (x : Tr) : Prop := Abs.Own true Tryz.prog 208 args x
abbrev pBoundVars.Ret (args : List AV) (r : AV) (frs : Fr) : Prop := Abs.Ret true Tryz.prog 208 args r frs
def sRuleVars.code : ACode := (q_ (r_ [s 1 (.box (t 0)), s 2 (.mv (.const (.slice none 0 0)))]) (q_ (r_ [s 10 (.bslice 9 1 true []), v_ 3 10]) (q_ (q_ (r_ [s 4 (.mv (i_ 0))]) (.block 0 (.loop (q_ (q_ (r_ [v_ 11 4, s 12 (f_ 2 1), s 13 (l_ 12), s 14 (.len false (t 13)), s 15 (.bin .lss (t 11) (t 14))]) (.cond (t 15) .skip (.exit 0))) (q_ (.block 1 (q_ (r_ [s 18 (f_ 2 1), s 19 (l_ 18), v_ 20 4, s 21 (.iadr 5 (t 19) (t 20)), s 22 (a_ 5 21), s 23 (.call 155 [t 22]), v_ 5 23]) (q_ (r_ [s 6 (.mv (i_ 0))]) (.block 2 (.loop (q_ (q_ (r_ [v_ 24 6, v_ 25 5, s 26 (.len false (t 25)), s 27 (.bin .lss (t 24) (t 26))]) (.cond (t 27) .skip (.exit 2))) (q_ (.block 3 (r_ [v_ 30 3, v_ 31 5, v_ 32 6, s 33 (.iadr 1 (t 31) (t 32)), s 34 (l_ 33), s 35 (.call 195 [t 30, t 34]), v_ 3 35])) (r_ [v_ 28 6, s 29 (.bin .add (t 28) (i_ 1)), v_ 6 29])))))))) (r_ [v_ 16 4, s 17 (.bin .add (t 16) (i_ 1)), v_ 4 17])))))) (q_ (q_ (r_ [s 7 (.mv (i_ 0))]) (.block 4 (.loop (q_ (q_ (r_ [v_ 36 7, s 37 (f_ 3 1), s 38 (l_ 37), s 39 (.len false (t 38)), s 40 (.bin .lss (t 36) (t 39))]) (.cond (t 40) .skip (.exit 4))) (q_ (.block 5 (q_ (r_ [s 43 (f_ 3 1), s 44 (l_ 43), v_ 45 7, s 46 (.iadr 3 (t 44) (t 45)), s 47 (f_ 1 46), s 48 (a_ 2 47), s 49 (.call 160 [t 48]), v_ 8 49]) (q_ (r_ [s 9 (.mv (i_ 0))]) (.block 6 (.loop (q_ (q_ (r_ [v_ 50 9, v_ 51 8, s 52 (.len false (t 51)), s 53 (.bin .lss (t 50) (t 52))]) (.cond (t 53) .skip (.exit 6))) (q_ (.block 7 (r_ [v_ 56 3, v_ 57 8, v_ 58 9, s 59 (.iadr 1 (t 57) (t 58)), s 60 (l_ 59), s 61 (.call 195 [t 56, t 60]), v_ 3 61])) (r_ [v_ 54 9, s 55 (.bin .add (t 54) (i_ 1)), v_ 9 55])))))))) (r_ [v_ 41 7, s 42 (.bin .add (t 41) (i_ 1)), v_ 7 42])))))) (q_ (r_ [v_ 62 3, v_ 2 62]) .ret)))))
theorem sRuleVars.ir : IrAt Tryz.prog 161 sRuleVars.code [0, 1, 2, 3, 4, 5, 6, 7, 8, 9] [.tmp 2] Tryz.f161.ntmps := ir_ Tryz.func161
abbrev sRuleVars.Own (args : List AV) (x : Tr) : Prop := Abs.Own true Tryz.prog 161 args x
def pRuleVars.code : ACode := (q_ (r_ [s 1 (.box (t 0)), s 2 (.mv (.const (.slice none 0 0)))]) (q_ (r_ [s 6 (f_ 2 1), s 7 (l_ 6), s 8 (.call 170 [t 7]), v_ 3 8]) (q_ (q_ (r_ [s 9 (f_ 3 1), s 10 (l_ 9), s 11 (.len false (t 10)), s 12 (.mv (i_ 0))]) (.block 0 (.loop (q_ (r_ [s 13 (.bin .lss (t 12) (t 11))]) (q_ (.cond (t 13) .skip (.exit 0)) (q_ (.block 1 (q_ (r_ [s 14 (.iadr 3 (t 10) (t 12)), s 15 (a_ 3 14), s 5 (.alloc [(.int .i64 (.ofNat 0)), (.string (.mk (.mk []))), (.slice none 0 0)]), ⟨none, none, (.store 3 (t 5) (t 15))⟩]) (r_ [v_ 16 3, s 17 (f_ 1 5), s 18 (a_ 2 17), s 19 (.call 211 [t 18]), s 20 (.append 9 1 16 (t 16) (t 19)), v_ 3 20]))) (r_ [s 21 (.bin .add (t 12) (i_ 1)), v_ 12 21]))))))) (q_ (r_ [v_ 22 3, s 23 (.call 213 [t 22]), v_ 2 23]) .ret))))
theorem pRuleVars.ir : IrAt Tryz.prog 224 pRuleVars.code [0, 1, 2, 3, 5, 10, 11, 12, 13] [.tmp 2] Tryz.f224.ntmps := ir_ Tryz.func224
abbrev pRuleVars.Own (args : List AV) (x : Tr) : Prop := Abs.Own true Tryz.prog 224 args x
abbrev pRuleVars.Ret (args : List AV) (r : AV) (frs : Fr) : Prop := Abs.Ret true Tryz.prog 224 args r frs
def sFindRule.code : ACode := (q_ (r_ [s 4 (.mv (i_ 0))]) (q_ (q_ (r_ [s 5 (.mv (i_ 0))]) (.block 0 (.loop (q_ (q_ (r_ [v_ 6 5, v_ 7 0, s 8 (.len false (t 7)), s 9 (.bin .lss (t 6) (t 8))]) (.cond (t 9) .skip (.exit 0))) (q_ (.block 1 (q_ (r_ [v_ 12 0, v_ 13 5, s 14 (.iadr 4 (t 12) (t 13)), s 15 (f_ 0 14), s 16 (l_ 15), v_ 17 1, s 18 (.bin .eql (t 16) (t 17))]) (.cond (t 18) (q_ (r_ [v_ 19 5, v_ 4 19]) .ret) .skip))) (r_ [v_ 10 5, s 11 (.bin .add (t 10) (i_ 1)), v_ 5 11])))))) (q_ (r_ [s 4 (.mv (.const (.int .i64 (-1))))]) .ret)))
theorem sFindRule.ir : IrAt Tryz.prog 36 sFindRule.code [0, 1, 4, 5] [.tmp 4] Tryz.f36.ntmps := ir_ Tryz.func36
abbrev sFindRule.Ret (args : List AV) (r : AV) (frs : Fr) : Prop := Abs.Ret true Tryz.prog 36 args r frs
def pFindRule.code : ACode := (q_ (r_ [s 3 (.box (t 1)), s 4 (.mv (i_ 0))]) (q_ (r_ [v_ 5 0, s 6 (.clo 109 [] [t 3]), s 7 (.call 108 [t 5, t 6]), v_ 4 7]) .ret))
theorem pFindRule.ir : IrAt Tryz.prog 49 pFindRule.code [0, 1, 3, 4] [.tmp 4] Tryz.f49.ntmps := ir_ Tryz.func49
abbrev pFindRule.Ret (args : List AV) (r : AV) (frs : Fr) : Prop := Abs.Ret true Tryz.prog 49 args r frs
def pvarsOfConds.code : ACode := (q_ (r_ [s 2 (.mv (.const (.slice none 0 0)))]) (q_ (r_ [s 6 (.bslice 9 1 true []), v_ 3 6]) (q_ (q_ (r_ [v_ 7 0, s 8 (.len false (t 7)), s 9 (.mv (i_ 0))]) (.block 0 (.loop (q_ (r_ [s 10 (.bin .lss (t 9) (t 8))]) (q_ (.cond (t 10) .skip (.exit 0)) (q_ (.block 1 (q_ (r_ [s 11 (.iadr 5 (t 7) (t 9)), s 12 (a_ 5 11), s 5 (.alloc [(.int .i64 (.ofNat 0)), (.string (.mk (.mk []))), (.slice none 0 0), (.string (.mk (.mk []))), (.string (.mk (.mk [])))]), ⟨none, none, (.store 5 (t 5) (t 12))⟩]) (r_ [v_ 13 3, s 14 (a_ 5 5), s 15 (.call 212 [t 14]), s 16 (.append 9 1 16 (t 13) (t 15)), v_ 3 16]))) (r_ [s 17 (.bin .add (t 9) (i_ 1)), v_ 9 17]))))))) (q_ (r_ [v_ 18 3, s 19 (.call 213 [t 18]), v_ 2 19]) .ret))))
theorem pvarsOfConds.ir : IrAt Tryz.prog 170 pvarsOfConds.code [0, 2, 3, 5, 7, 8, 9, 10] [.tmp 2] Tryz.f170.ntmps := ir_ Tryz.func170
abbrev pvarsOfConds.Own (args : List AV) (x : Tr) : Prop := Abs.Own true Tryz.prog 170 args x
abbrev pvarsOfConds.Ret (args : List AV) (r : AV) (frs : Fr) : Prop := Abs.Ret true Tryz.prog 170 args r frs
def slIndexFuncR.code : ACode := (q_ (r_ [s 4 (.mv (i_ 0))]) (q_ (q_ (r_ [v_ 6 0, s 7 (.len false (t 6)), s 8 (.mv (i_ 0))]) (.block 0 (.loop (q_ (r_ [s 9 (.bin .lss (t 8) (t 7))]) (q_ (.cond (t 9) .skip (.exit 0)) (q_ (.block 1 (q_ (r_ [v_ 10 8, v_ 5 10]) (q_ (r_ [v_ 11 1, v_ 12 0, v_ 13 5, s 14 (.iadr 4 (t 12) (t 13)), s 15 (a_ 4 14), s 16 (.callv (t 11) [t 15])]) (.cond (t 16) (q_ (r_ [v_ 17 5, v_ 4 17]) .ret) .skip)))) (r_ [s 18 (.bin .add (t 8) (i_ 1)), v_ 8 18]))))))) (q_ (r_ [s 4 (.mv (.const (.int .i64 (-1))))]) .ret)))
theorem slIndexFuncR.ir : IrAt Tryz.prog 108 slIndexFuncR.code [0, 1, 4, 5, 7, 8, 9] [.tmp 4] Tryz.f108.ntmps := ir_ Tryz.func108
abbrev slIndexFuncR.Ret (args : List AV) (r : AV) (frs : Fr) : Prop := Abs.Ret true Tryz.prog 108 args r frs
def pFindRuleClo.code : ACode := (q_ (r_ [s 2 (.box (t 0)), s 3 mf_]) (q_ (r_ [s 4 (f_ 0 2), s 5 (l_ 4), s 6 (l_ 1), s 7 (.bin .eql (t 5) (t 6)), v_ 3 7]) .ret))
theorem pFindRuleClo.ir : IrAt Tryz.prog 109 pFindRuleClo.code [0, 1, 2, 3] [.tmp 3] Tryz.f109.ntmps := ir_ Tryz.func109
abbrev pFindRuleClo.Ret (args : List AV) (r : AV) (frs : Fr) : Prop := Abs.Ret true Tryz.prog 109 args r frs
def sIsRule.code : ACode := (q_ (r_ [s 1 (.box (t 0)), s 2 mf_]) (q_ (q_ (r_ [s 13 (f_ 0 1), s 14 (l_ 13), s 15 (.call 126 [t 14]), s 16 (.not (t 15)), v_ 17 16, g 17 false 18 (f_ 1 1), g 17 false 19 (l_ 18), g 17 false 20 (.call 70 [t 19, (i_ 0), (i_ 9)]), g 17 false 21 (.not (t 20)), s 22 (.or (t 17) (t 21)), v_ 23 22, g 23 false 24 (f_ 2 1), g 23 false 25 (l_ 24), g 23 false 26 (.len false (t 25)), g 23 false 27 (.call 70 [t 26, (i_ 1), (i_ 4)]), g 23 false 28 (.not (t 27)), s 29 (.or (t 23) (t 28)), v_ 30 29, g 30 false 31 (f_ 3 1), g 30 false 32 (l_ 31), g 30 false 33 (.len false (t 32)), g 30 false 34 (.call 70 [t 33, (i_ 1), (i_ 2)]), g 30 false 35 (.not (t 34)), s 36 (.or (t 30) (t 35))]) (.cond (t 36) (q_ (r_ [s 2 mf_]) .ret) .skip)) (q_ (r_ [s 37 (a_ 4 1), s 38 (f_ 2 1), s 39 (l_ 38), s 40 (.len false (t 39)), s 41 (.call 153 [t 37, t 40]), v_ 3 41]) (q_ (q_ (r_ [s 4 (.mv (i_ 0))]) (.block 0 (.loop (q_ (q_ (r_ [v_ 42 4, s 43 (f_ 2 1), s 44 (l_ 43), s 45 (.len false (t 44)), s 46 (.bin .lss (t 42) (t 45))]) (.cond (t 46) .skip (.exit 0))) (q_ (.block 1 (q_ (r_ [s 49 (f_ 2 1), s 50 (l_ 49), v_ 51 4, s 52 (.iadr 5 (t 50) (t 51)), s 53 (a_ 5 52), s 5 (.alloc [(.int .i64 (.ofNat 0)), (.string (.mk (.mk []))), (.slice none 0 0), (.string (.mk (.mk []))), (.string (.mk (.mk [])))]), ⟨none, none, (.store 5 (t 5) (t 53))⟩]) (q_ (q_ (r_ [s 54 (a_ 5 5), s 55 (.call 154 [t 54]), s 56 (.not (t 55)), v_ 57 56, g 57 false 58 (.mv (t 4)), g 57 false 59 (.bin .eql (t 58) (i_ 0)), g 57 false 60 (.mv (t 59)), g 60 true 61 (f_ 0 5), g 60 true 62 (l_ 61), g 60 true 63 (.bin .neq (t 62) (i_ 1)), g 57 false 64 (.and (t 60) (t 63)), s 65 (.or (t 57) (t 64))]) (.cond (t 65) (q_ (r_ [s 2 mf_]) .ret) .skip)) (q_ (r_ [s 66 (a_ 4 1), v_ 67 4, s 68 (.call 153 [t 66, t 67]), v_ 6 68]) (q_ (r_ [s 69 (a_ 5 5), s 70 (.call 155 [t 69]), v_ 7 70]) (q_ (r_ [s 8 (.mv (i_ 0))]) (.block 2 (.loop (q_ (q_ (r_ [v_ 71 8, v_ 72 7, s 73 (.len false (t 72)), s 74 (.bin .lss (t 71) (t 73))]) (.cond (t 74) .skip (.exit 2))) (q_ (.block 3 (q_ (r_ [v_ 77 6, v_ 78 7, v_ 79 8, s 80 (.iadr 1 (t 78) (t 79)), s 81 (l_ 80), s 82 (.call 156 [t 77, t 81]), v_ 9 82]) (q_ (.region true [s 83 (a_ 5 5), s 84 (.call 157 [t 83]), v_ 85 84, g 85 true 86 (.mv (t 9)), g 85 true 87 (.not (t 86)), s 88 (.and (t 85) (t 87)), v_ 89 88, g 89 false 90 (f_ 0 5), g 89 false 91 (l_ 90), g 89 false 92 (.bin .eql (t 91) (i_ 2)), g 89 false 93 (.mv (t 92)), g 93 true 94 (.mv (t 9)), g 93 true 95 (.not (t 94)), g 89 false 96 (.and (t 93) (t 95)), g 89 false 97 (.mv (t 96)), g 97 true 98 (a_ 4 1), g 97 true 99 (.mv (t 4)), g 97 true 100 (.mv (t 7)), g 97 true 101 (.mv (t 8)), g 97 true 102 (.iadr 1 (t 100) (t 101)), g 97 true 103 (l_ 102), g 97 true 104 (.call 158 [t 98, t 99, t 103]), g 89 false 105 (.and (t 97) (t 104)), s 106 (.or (t 89) (t 105))]) (.cond (t 106) (q_ (r_ [s 2 mf_]) .ret) .skip)))) (r_ [v_ 75 8, s 76 (.bin .add (t 75) (i_ 1)), v_ 8 76]))))))))))) (r_ [v_ 47 4, s 48 (.bin .add (t 47) (i_ 1)), v_ 4 48])))))) (q_ (q_ (r_ [s 10 (.mv (i_ 0))]) (.block 4 (.loop (q_ (q_ (r_ [v_ 107 10, s 108 (f_ 3 1), s 109 (l_ 108), s 110 (.len false (t 109)), s 111 (.bin .lss (t 107) (t 110))]) (.cond (t 111) .skip (.exit 4))) (q_ (.block 5 (q_ (q_ (r_ [s 114 (f_ 3 1), s 115 (l_ 114), v_ 116 10, s 117 (.iadr 3 (t 115) (t 116)), s 118 (a_ 3 117), s 119 (.call 159 [t 118]), s 120 (.not (t 119))]) (.cond (t 120) (q_ (r_ [s 2 mf_]) .ret) .skip)) (q_ (r_ [s 121 (f_ 3 1), s 122 (l_ 121), v_ 123 10, s 124 (.iadr 3 (t 122) (t 123)), s 125 (f_ 1 124), s 126 (a_ 2 125), s 127 (.call 160 [t 126]), v_ 11 127]) (q_ (r_ [s 12 (.mv (i_ 0))]) (.block 6 (.loop (q_ (q_ (r_ [v_ 128 12, v_ 129 11, s 130 (.len false (t 129)), s 131 (.bin .lss (t 128) (t 130))]) (.cond (t 131) .skip (.exit 6))) (q_ (.block 7 (q_ (r_ [v_ 134 3, v_ 135 11, v_ 136 12, s 137 (.iadr 1 (t 135) (t 136)), s 138 (l_ 137), s 139 (.call 156 [t 134, t 138]), s 140 (.not (t 139))]) (.cond (t 140) (q_ (r_ [s 2 mf_]) .ret) .skip))) (r_ [v_ 132 12, s 133 (.bin .add (t 132) (i_ 1)), v_ 12 133]))))))))) (r_ [v_ 112 10, s 113 (.bin .add (t 112) (i_ 1)), v_ 10 113])))))) (q_ (r_ [s 141 (a_ 4 1), s 142 (.call 161 [t 141]), s 143 (.len false (t 142)), s 144 (.bin .leq (t 143) (i_ 6)), v_ 2 144]) .ret))))))
theorem sIsRule.ir : IrAt Tryz.prog 95 sIsRule.code [0, 1, 2, 3, 4, 5, 6, 7, 8, 9, 10, 11, 12] [.tmp 2] Tryz.f95.ntmps := ir_ Tryz.func95
abbrev sIsRule.Ret (args : List AV) (r : AV) (frs : Fr) : Prop := Abs.Ret true Tryz.prog 95 args r frs
def pIsRule.code : ACode := (q_ (r_ [s 1 (.box (t 0)), s 2 mf_]) (q_ (r_ [s 3 (f_ 0 1), s 4 (l_ 3), s 5 (.call 134 [t 4]), v_ 6 5, g 6 true 7 (f_ 1 1), g 6 true 8 (l_ 7), g 6 true 9 (.bin .leq (i_ 0) (t 8)), s 10 (.and (t 6) (t 9)), v_ 11 10, g 11 true 12 (f_ 1 1), g 11 true 13 (l_ 12), g 11 true 14 (.bin .leq (t 13) (i_ 9)), s 15 (.and (t 11) (t 14)), v_ 16 15, g 16 true 17 (f_ 2 1), g 16 true 18 (l_ 17), g 16 true 19 (.call 167 [t 18]), s 20 (.and (t 16) (t 19)), v_ 21 20, g 21 true 22 (f_ 3 1), g 21 true 23 (l_ 22), g 21 true 24 (.call 168 [t 23]), s 25 (.and (t 21) (t 24)), v_ 26 25, g 26 true 27 (a_ 4 1), g 26 true 28 (.call 169 [t 27]), s 29 (.and (t 26) (t 28)), v_ 30 29, g 30 true 31 (f_ 2 1), g 30 true 32 (l_ 31), g 30 true 33 (.call 170 [t 32]), g 30 true 34 (.len false (t 33)), g 30 true 35 (.bin .leq (t 34) (i_ 6)), s 36 (.and (t 30) (t 35)), v_ 2 36]) .ret))
theorem pIsRule.ir : IrAt Tryz.prog 105 pIsRule.code [0, 1, 2] [.tmp 2] Tryz.f105.ntmps := ir_ Tryz.func105
abbrev pIsRule.Ret (args : List AV) (r : AV) (frs : Fr) : Prop := Abs.Ret true Tryz.prog 105 args r frs
def sAreRules.code : ACode := (q_ (r_ [s 2 mf_]) (q_ (q_ (r_ [s 3 (.mv (i_ 0))]) (.block 0 (.loop (q_ (q_ (r_ [v_ 4 3, v_ 5 0, s 6 (.len false (t 5)), s 7 (.bin .lss (t 4) (t 6))]) (.cond (t 7) .skip (.exit 0))) (q_ (.block 1 (q_ (r_ [v_ 10 0, v_ 11 3, s 12 (.iadr 4 (t 10) (t 11)), s 13 (a_ 4 12), s 14 (.call 95 [t 13]), s 15 (.not (t 14)), v_ 16 15, g 16 false 17 (.mv (t 0)), g 16 false 18 (.mv (t 0)), g 16 false 19 (.mv (t 3)), g 16 false 20 (.iadr 4 (t 18) (t 19)), g 16 false 21 (f_ 0 20), g 16 false 22 (l_ 21), g 16 false 23 (.call 36 [t 17, t 22]), g 16 false 24 (.mv (t 3)), g 16 false 25 (.bin .neq (t 23) (t 24)), s 26 (.or (t 16) (t 25))]) (.cond (t 26) (q_ (r_ [s 2 mf_]) .ret) .skip))) (r_ [v_ 8 3, s 9 (.bin .add (t 8) (i_ 1)), v_ 3 9])))))) (q_ (r_ [v_ 27 0, s 28 (.len false (t 27)), s 29 (.bin .leq (t 28) (i_ 6)), v_ 2 29]) .ret)))
theorem sAreRules.ir : IrAt Tryz.prog 38 sAreRules.code [0, 2, 3] [.tmp 2] Tryz.f38.ntmps := ir_ Tryz.func38
abbrev sAreRules.Ret (args : List AV) (r : AV) (frs : Fr) : Prop := Abs.Ret true Tryz.prog 38 args r frs
def pAreRules.code : ACode := (q_ (r_ [s 2 mf_]) (q_ (q_ (r_ [v_ 5 0, s 6 (.len false (t 5)), s 7 (.bin .gtr (t 6) (i_ 6))]) (.cond (t 7) (q_ (r_ [s 2 mf_]) .ret) .skip)) (q_ (q_ (r_ [v_ 8 0, s 9 (.len false (t 8)), s 10 (.mv (i_ 0))]) (.block 0 (.loop (q_ (r_ [s 11 (.bin .lss (t 10) (t 9))]) (q_ (.cond (t 11) .skip (.exit 0)) (q_ (.block 1 (q_ (r_ [v_ 12 10, s 13 (.iadr 4 (t 8) (t 10)), s 14 (a_ 4 13), s 4 (.alloc [(.string (.mk (.mk []))), (.int .i64 (.ofNat 0)), (.slice none 0 0), (.slice none 0 0)]), v_ 3 12, ⟨none, none, (.store 4 (t 4) (t 14))⟩]) (q_ (r_ [s 15 (a_ 4 4), s 16 (.call 105 [t 15]), s 17 (.not (t 16)), v_ 18 17, g 18 false 19 (.mv (t 0)), g 18 false 20 (f_ 0 4), g 18 false 21 (l_ 20), g 18 false 22 (.call 49 [t 19, t 21]), g 18 false 23 (.mv (t 3)), g 18 false 24 (.bin .neq (t 22) (t 23)), s 25 (.or (t 18) (t 24))]) (.cond (t 25) (q_ (r_ [s 2 mf_]) .ret) .skip)))) (r_ [s 26 (.bin .add (t 10) (i_ 1)), v_ 10 26]))))))) (q_ (r_ [s 2 mt_]) .ret))))
theorem pAreRules.ir : IrAt Tryz.prog 47 pAreRules.code [0, 2, 3, 4, 8, 9, 10, 11] [.tmp 2] Tryz.f47.ntmps := ir_ Tryz.func47
abbrev pAreRules.Ret (args : List AV) (r : AV) (frs : Fr) : Prop := Abs.Ret true Tryz.prog 47 args r frs
def sElse.code : ACode := (q_ (r_ [s 3 (.box (t 0)), s 6 mf_]) (q_ (q_ (r_ [s 7 (.mv (i_ 0))]) (.block 0 (.loop (q_ (q_ (r_ [v_ 9 7, s 10 (f_ 2 3), s 11 (l_ 10), s 12 (.len false (t 11)), s 13 (.bin .lss (t 9) (t 12))]) (.cond (t 13) .skip (.exit 0))) (q_ (.block 1 (q_ (r_ [v_ 16 7, v_ 17 1, s 18 (.bin .neq (t 16) (t 17)), v_ 19 18, g 19 true 20 (f_ 2 3), g 19 true 21 (l_ 20), g 19 true 22 (.mv (t 7)), g 19 true 23 (.iadr 5 (t 21) (t 22)), g 19 true 24 (a_ 5 23), g 19 true 25 (.call 155 [t 24]), g 19 true 26 (.mv (t 2)), g 19 true 27 (.call 156 [t 25, t 26]), s 28 (.and (t 19) (t 27))]) (.cond (t 28) (q_ (r_ [s 6 mt_]) .ret) .skip))) (r_ [v_ 14 7, s 15 (.bin .add (t 14) (i_ 1)), v_ 7 15])))))) (q_ (q_ (r_ [s 8 (.mv (i_ 0))]) (.block 2 (.loop (q_ (q_ (r_ [v_ 29 8, s 30 (f_ 3 3), s 31 (l_ 30), s 32 (.len false (t 31)), s 33 (.bin .lss (t 29) (t 32))]) (.cond (t 33) .skip (.exit 2))) (q_ (.block 3 (q_ (r_ [s 36 (f_ 3 3), s 37 (l_ 36), v_ 38 8, s 39 (.iadr 3 (t 37) (t 38)), s 40 (f_ 1 39), s 41 (a_ 2 40), s 42 (.call 160 [t 41]), v_ 43 2, s 44 (.call 156 [t 42, t 43])]) (.cond (t 44) (q_ (r_ [s 6 mt_]) .ret) .skip))) (r_ [v_ 34 8, s 35 (.bin .add (t 34) (i_ 1)), v_ 8 35])))))) (q_ (r_ [s 6 mf_]) .ret))))
theorem sElse.ir : IrAt Tryz.prog 158 sElse.code [0, 1, 2, 3, 6, 7, 8] [.tmp 6] Tryz.f158.ntmps := ir_ Tryz.func158
abbrev sElse.Ret (args : List AV) (r : AV) (frs : Fr) : Prop := Abs.Ret true Tryz.prog 158 args r frs
def pareConds.code : ACode := (q_ (r_ [s 2 mf_]) (q_ (r_ [v_ 3 0, s 4 (.len false (t 3)), s 5 (.bin .leq (i_ 1) (t 4)), v_ 6 5, g 6 true 7 (.mv (t 0)), g 6 true 8 (.len false (t 7)), g 6 true 9 (.bin .leq (t 8) (i_ 4)), s 10 (.and (t 6) (t 9)), v_ 11 10, g 11 true 12 (.mv (t 0)), g 11 true 13 (.iadr 5 (t 12) (i_ 0)), g 11 true 14 (f_ 0 13), g 11 true 15 (l_ 14), g 11 true 16 (.bin .eql (t 15) (i_ 1)), s 17 (.and (t 11) (t 16)), v_ 18 17, g 18 true 19 (.mv (t 0)), g 18 true 20 (.call 203 [t 19, (.func 204)]), s 21 (.and (t 18) (t 20)), v_ 2 21]) .ret))
theorem pareConds.ir : IrAt Tryz.prog 167 pareConds.code [0, 2] [.tmp 2] Tryz.f167.ntmps := ir_ Tryz.func167
abbrev pareConds.Ret (args : List AV) (r : AV) (frs : Fr) : Prop := Abs.Ret true Tryz.prog 167 args r frs
def pareActions.code : ACode := (q_ (r_ [s 2 mf_]) (q_ (r_ [v_ 3 0, s 4 (.len false (t 3)), s 5 (.bin .leq (i_ 1) (t 4)), v_ 6 5, g 6 true 7 (.mv (t 0)), g 6 true 8 (.len false (t 7)), g 6 true 9 (.bin .leq (t 8) (i_ 2)), s 10 (.and (t 6) (t 9)), v_ 11 10, g 11 true 12 (.mv (t 0)), g 11 true 13 (.call 205 [t 12, (.func 206)]), s 14 (.and (t 11) (t 13)), v_ 2 14]) .ret))
theorem pareActions.ir : IrAt Tryz.prog 168 pareActions.code [0, 2] [.tmp 2] Tryz.f168.ntmps := ir_ Tryz.func168
abbrev pareActions.Ret (args : List AV) (r : AV) (frs : Fr) : Prop := Abs.Ret true Tryz.prog 168 args r frs
def pusesOnlyBound.code : ACode := (q_ (r_ [s 1 (.box (t 0)), s 2 mf_]) (q_ (q_ (r_ [s 5 (f_ 2 1), s 6 (l_ 5), s 7 (.len false (t 6)), s 8 (.mv (i_ 0))]) (.block 0 (.loop (q_ (r_ [s 9 (.bin .lss (t 8) (t 7))]) (q_ (.cond (t 9) .skip (.exit 0)) (q_ (.block 1 (q_ (r_ [v_ 10 8, v_ 3 10]) (q_ (r_ [s 11 (a_ 4 1), v_ 12 3, s 13 (.call 207 [t 11, t 12]), s 14 (.not (t 13))]) (.cond (t 14) (q_ (r_ [s 2 mf_]) .ret) .skip)))) (r_ [s 15 (.bin .add (t 8) (i_ 1)), v_ 8 15]))))))) (q_ (r_ [s 16 (a_ 4 1), s 17 (f_ 2 1), s 18 (l_ 17), s 19 (.len false (t 18)), s 20 (.call 208 [t 16, t 19]), s 4 (.alloc [(.slice none 0 0)]), ⟨none, none, (.store 1 (t 4) (t 20))⟩]) (q_ (r_ [s 21 (f_ 3 1), s 22 (l_ 21), s 23 (.clo 209 [] [t 4]), s 24 (.call 205 [t 22, t 23]), v_ 2 24]) .ret))))
theorem pusesOnlyBound.ir : IrAt Tryz.prog 169 pusesOnlyBound.code [0, 1, 2, 3, 4, 7, 8, 9] [.tmp 2] Tryz.f169.ntmps := ir_ Tryz.func169
abbrev pusesOnlyBound.Ret (args : List AV) (r : AV) (frs : Fr) : Prop := Abs.Ret true Tryz.prog 169 args r frs
def pmayStandAt.code : ACode := (q_ (r_ [s 2 (.box (t 0)), s 4 mf_]) (q_ (.heldT false [8, 9, 10, 11, 12, 13, 14, 15, 5, 6] (.alt (s 8 (f_ 2 2)) (.alt (s 9 (l_ 8)) (.alt (v_ 10 1) (.alt (s 11 (.iadr 5 (t 9) (t 10))) (.alt (s 12 (a_ 5 11)) (.alt (s 13 (a_ 4 2)) (.alt (v_ 14 1) (.alt (s 15 (.call 208 [t 13, t 14])) (.alt (s 5 (.alloc [(.int .i64 (.ofNat 0)), (.string (.mk (.mk []))), (.slice none 0 0), (.string (.mk (.mk []))), (.string (.mk (.mk [])))])) (.alt (s 6 (.alloc [(.slice none 0 0)])) .fin .none) (.alt (s 6 (.alloc [(.slice none 0 0)])) (.alt (s 5 (.alloc [(.int .i64 (.ofNat 0)), (.string (.mk (.mk []))), (.slice none 0 0), (.string (.mk (.mk []))), (.string (.mk (.mk [])))])) .fin .none) .none)) (.alt (s 5 (.alloc [(.int .i64 (.ofNat 0)), (.string (.mk (.mk []))), (.slice none 0 0), (.string (.mk (.mk []))), (.string (.mk (.mk [])))])) (.alt (s 15 (.call 208 [t 13, t 14])) (.alt (s 6 (.alloc [(.slice none 0 0)])) .fin .none) (.alt (s 6 (.alloc [(.slice none 0 0)])) (.alt (s 15 (.call 208 [t 13, t 14])) .fin .none) .none)) (.alt (s 6 (.alloc [(.slice none 0 0)])) (.alt (s 15 (.call 208 [t 13, t 14])) (.alt (s 5 (.alloc [(.int .i64 (.ofNat 0)), (.string (.mk (.mk []))), (.slice none 0 0), (.string (.mk (.mk []))), (.string (.mk (.mk [])))])) .fin .none) (.alt (s 5 (.alloc [(.int .i64 (.ofNat 0)), (.string (.mk (.mk []))), (.slice none 0 0), (.string (.mk (.mk []))), (.string (.mk (.mk [])))])) (.alt (s 15 (.call 208 [t 13, t 14])) .fin .none) .none)) .none))) .none) .none) .none) .none) .none) .none) .none) [⟨none, none, (.store 5 (t 5) (t 12))⟩, ⟨none, none, (.store 1 (t 6) (t 15))⟩]) (q_ (q_ (r_ [s 16 (f_ 0 5), s 17 (l_ 16)]) (.block 0 (q_ (r_ [s 19 (.bin .eql (t 17) (i_ 1)), v_ 18 19]) (.cond (t 18) (q_ (r_ [s 4 mt_]) .ret) (q_ (r_ [s 21 (.bin .eql (t 17) (i_ 2)), v_ 20 21]) (.cond (t 20) (q_ (.heldT false [22, 23, 24, 25, 26, 27, 28, 29, 30, 31, 32, 33, 34, 35, 36, 7] (.alt (s 22 (f_ 2 2)) (.alt (s 23 (l_ 22)) (.alt (v_ 24 1) (.alt (s 25 (.slice false 5 (t 23) none (some (t 24)))) (.alt (s 26 (f_ 2 2)) (.alt (s 27 (l_ 26)) (.alt (v_ 28 1) (.alt (s 29 (.bin .add (t 28) (i_ 1))) (.alt (s 30 (.slice false 5 (t 27) (some (t 29)) none)) (.alt (s 33 (f_ 3 2)) (.alt (s 34 (l_ 33)) (.alt (s 31 (.bslice 90 1 true [t 25, t 30])) (.alt (s 32 (.call 225 [t 31])) (.alt (s 35 (.build [(.string (.mk (.mk []))), (.int .i64 (.ofNat 0)), (.slice none 0 0), (.slice none 0 0)] [(2, 1), (3, 1)] [t 32, t 34])) (.alt (s 36 (.call 224 [t 35])) (.alt (s 7 (.alloc [(.slice none 0 0)])) .fin .none) (.alt (s 7 (.alloc [(.slice none 0 0)])) (.alt (s 36 (.call 224 [t 35])) .fin .none) .none)) .none) (.alt (s 7 (.alloc [(.slice none 0 0)])) (.alt (s 32 (.call 225 [t 31])) (.alt (s 35 (.build [(.string (.mk (.mk []))), (.int .i64 (.ofNat 0)), (.slice none 0 0), (.slice none 0 0)] [(2, 1), (3, 1)] [t 32, t 34])) (.alt (s 36 (.call 224 [t 35])) .fin .none) .none) .none) .none)) (.alt (s 7 (.alloc [(.slice none 0 0)])) (.alt (s 31 (.bslice 90 1 true [t 25, t 30])) (.alt (s 32 (.call 225 [t 31])) (.alt (s 35 (.build [(.string (.mk (.mk []))), (.int .i64 (.ofNat 0)), (.slice none 0 0), (.slice none 0 0)] [(2, 1), (3, 1)] [t 32, t 34])) (.alt (s 36 (.call 224 [t 35])) .fin .none) .none) .none) .none) .none)) .none) .none) .none) .none) .none) .none) .none) .none) .none) .none) .none) [⟨none, none, (.store 1 (t 7) (t 36))⟩]) (q_ (r_ [s 37 (a_ 5 5), s 38 (.call 212 [t 37]), s 39 (.clo 227 [] [t 6, t 7]), s 40 (.call 226 [t 38, t 39]), v_ 4 40]) .ret)) .skip)))))) (q_ (.held [s 41 (a_ 5 5), s 43 (l_ 6), s 42 (.call 212 [t 41])] [s 44 (.call 210 [t 42, t 43]), v_ 4 44]) .ret))))
theorem pmayStandAt.ir : IrAt Tryz.prog 207 pmayStandAt.code [0, 1, 2, 4, 5, 6, 7, 17] [.tmp 4] Tryz.f207.ntmps := ir_ Tryz.func207
abbrev pmayStandAt.Ret (args : List AV) (r : AV) (frs : Fr) : Prop := Abs.Ret true Tryz.prog 207 args r frs
def pareAmong.code : ACode := (q_ (r_ [s 3 (.box (t 1)), s 4 mf_]) (q_ (r_ [v_ 5 0, s 6 (.clo 229 [] [t 3]), s 7 (.call 226 [t 5, t 6]), v_ 4 7]) .ret))
theorem pareAmong.ir : IrAt Tryz.prog 210 pareAmong.code [0, 1, 3, 4] [.tmp 4] Tryz.f210.ntmps := ir_ Tryz.func210
abbrev pareAmong.Ret (args : List AV) (r : AV) (frs : Fr) : Prop := Abs.Ret true Tryz.prog 210 args r frs
def pallC.code : ACode := (q_ (r_ [s 4 mf_]) (q_ (q_ (r_ [v_ 7 0, s 8 (.len false (t 7)), s 9 (.mv (i_ 0))]) (.block 0 (.loop (q_ (r_ [s 10 (.bin .lss (t 9) (t 8))]) (q_ (.cond (t 10) .skip (.exit 0)) (q_ (.block 1 (q_ (r_ [s 11 (.iadr 5 (t 7) (t 9)), s 12 (a_ 5 11), s 6 (.alloc [(.int .i64 (.ofNat 0)), (.string (.mk (.mk []))), (.slice none 0 0), (.string (.mk (.mk []))), (.string (.mk (.mk [])))]), ⟨none, none, (.store 5 (t 6) (t 12))⟩]) (q_ (r_ [v_ 13 1, s 14 (a_ 5 6), s 15 (.callv (t 13) [t 14]), s 16 (.not (t 15))]) (.cond (t 16) (q_ (r_ [s 4 mf_]) .ret) .skip)))) (r_ [s 17 (.bin .add (t 9) (i_ 1)), v_ 9 17]))))))) (q_ (r_ [s 4 mt_]) .ret)))
theorem pallC.ir : IrAt Tryz.prog 203 pallC.code [0, 1, 4, 6, 7, 8, 9, 10] [.tmp 4] Tryz.f203.ntmps := ir_ Tryz.func203
abbrev pallC.Ret (args : List AV) (r : AV) (frs : Fr) : Prop := Abs.Ret true Tryz.prog 203 args r frs
def pallA.code : ACode := (q_ (r_ [s 4 mf_]) (q_ (q_ (r_ [v_ 7 0, s 8 (.len false (t 7)), s 9 (.mv (i_ 0))]) (.block 0 (.loop (q_ (r_ [s 10 (.bin .lss (t 9) (t 8))]) (q_ (.cond (t 10) .skip (.exit 0)) (q_ (.block 1 (q_ (r_ [s 11 (.iadr 3 (t 7) (t 9)), s 12 (a_ 3 11), s 6 (.alloc [(.int .i64 (.ofNat 0)), (.string (.mk (.mk []))), (.slice none 0 0)]), ⟨none, none, (.store 3 (t 6) (t 12))⟩]) (q_ (r_ [v_ 13 1, s 14 (a_ 3 6), s 15 (.callv (t 13) [t 14]), s 16 (.not (t 15))]) (.cond (t 16) (q_ (r_ [s 4 mf_]) .ret) .skip)))) (r_ [s 17 (.bin .add (t 9) (i_ 1)), v_ 9 17]))))))) (q_ (r_ [s 4 mt_]) .ret)))
theorem pallA.ir : IrAt Tryz.prog 205 pallA.code [0, 1, 4, 6, 7, 8, 9, 10] [.tmp 4] Tryz.f205.ntmps := ir_ Tryz.func205
abbrev pallA.Ret (args : List AV) (r : AV) (frs : Fr) : Prop := Abs.Ret true Tryz.prog 205 args r frs
def pallS.code : ACode := (q_ (r_ [s 4 mf_]) (q_ (q_ (r_ [v_ 7 0, s 8 (.len false (t 7)), s 9 (.mv (i_ 0))]) (.block 0 (.loop (q_ (r_ [s 10 (.bin .lss (t 9) (t 8))]) (q_ (.cond (t 10) .skip (.exit 0)) (q_ (.block 1 (q_ (r_ [s 11 (.iadr 1 (t 7) (t 9)), s 12 (l_ 11), v_ 6 12]) (q_ (r_ [v_ 13 1, v_ 14 6, s 15 (.callv (t 13) [t 14]), s 16 (.not (t 15))]) (.cond (t 16) (q_ (r_ [s 4 mf_]) .ret) .skip)))) (r_ [s 17 (.bin .add (t 9) (i_ 1)), v_ 9 17]))))))) (q_ (r_ [s 4 mt_]) .ret)))
theorem pallS.ir : IrAt Tryz.prog 226 pallS.code [0, 1, 4, 6, 7, 8, 9, 10] [.tmp 4] Tryz.f226.ntmps := ir_ Tryz.func226
abbrev pallS.Ret (args : List AV) (r : AV) (frs : Fr) : Prop := Abs.Ret true Tryz.prog 226 args r frs
def pmayClo.code : ACode := (q_ (r_ [s 4 mf_]) (q_ (r_ [s 5 (l_ 1), v_ 6 0, s 7 (.call 228 [t 5, t 6]), v_ 8 7, g 8 false 9 (l_ 2), g 8 false 10 (.mv (t 0)), g 8 false 11 (.call 228 [t 9, t 10]), g 8 false 12 (.not (t 11)), s 13 (.or (t 8) (t 12)), v_ 4 13]) .ret))
theorem pmayClo.ir : IrAt Tryz.prog 227 pmayClo.code [0, 1, 2, 4] [.tmp 4] Tryz.f227.ntmps := ir_ Tryz.func227
abbrev pmayClo.Ret (args : List AV) (r : AV) (frs : Fr) : Prop := Abs.Ret true Tryz.prog 227 args r frs
def pamongClo.code : ACode := (q_ (r_ [s 3 mf_]) (q_ (r_ [s 4 (l_ 1), v_ 5 0, s 6 (.call 228 [t 4, t 5]), v_ 3 6]) .ret))
theorem pamongClo.ir : IrAt Tryz.prog 229 pamongClo.code [0, 1, 3] [.tmp 3] Tryz.f229.ntmps := ir_ Tryz.func229
abbrev pamongClo.Ret (args : List AV) (r : AV) (frs : Fr) : Prop := Abs.Ret true Tryz.prog 229 args r frs
def pusesClo.code : ACode := (q_ (r_ [s 2 (.box (t 0)), s 3 mf_]) (q_ (.held [s 4 (f_ 1 2), s 5 (a_ 2 4), s 7 (l_ 1), s 6 (.call 211 [t 5])] [s 8 (.call 210 [t 6, t 7]), v_ 3 8]) .ret))
theorem pusesClo.ir : IrAt Tryz.prog 209 pusesClo.code [0, 1, 2, 3] [.tmp 3] Tryz.f209.ntmps := ir_ Tryz.func209
abbrev pusesClo.Ret (args : List AV) (r : AV) (frs : Fr) : Prop := Abs.Ret true Tryz.prog 209 args r frs
def slConcatC.code : ACode := (q_ (r_ [s 2 (.mv (.const (.slice none 0 0)))]) (q_ (r_ [s 3 (.mv (i_ 0))]) (q_ (q_ (r_ [v_ 9 0, s 10 (.len false (t 9)), s 11 (.mv (i_ 0))]) (.block 0 (.loop (q_ (r_ [s 12 (.bin .lss (t 11) (t 10))]) (q_ (.cond (t 12) .skip (.exit 0)) (q_ (.block 1 (q_ (r_ [s 13 (.iadr 1 (t 9) (t 11)), s 14 (l_ 13), v_ 5 14]) (q_ (r_ [v_ 15 3, v_ 16 5, s 17 (.len false (t 16)), s 18 (.bin .add (t 15) (t 17)), v_ 3 18]) (q_ (r_ [v_ 19 3, s 20 (.bin .lss (t 19) (i_ 0))]) (.cond (t 20) (r_ [s 21 .other, ⟨none, none, .other⟩]) .skip))))) (r_ [s 22 (.bin .add (t 11) (i_ 1)), v_ 11 22]))))))) (q_ (r_ [v_ 23 3, s 24 (.call 241 [(.const (.slice none 0 0)), t 23]), v_ 6 24]) (q_ (q_ (r_ [v_ 25 0, s 26 (.len false (t 25)), s 27 (.mv (i_ 0))]) (.block 2 (.loop (q_ (r_ [s 28 (.bin .lss (t 27) (t 26))]) (q_ (.cond (t 28) .skip (.exit 2)) (q_ (.block 3 (q_ (r_ [s 29 (.iadr 1 (t 25) (t 27)), s 30 (l_ 29), v_ 8 30]) (r_ [v_ 31 6, v_ 32 8, s 33 (.append 150 5 80 (t 31) (t 32)), v_ 6 33]))) (r_ [s 34 (.bin .add (t 27) (i_ 1)), v_ 27 34]))))))) (q_ (r_ [v_ 35 6, v_ 2 35]) .ret))))))
theorem slConcatC.ir : IrAt Tryz.prog 225 slConcatC.code [0, 2, 3, 5, 6, 8, 9, 10, 11, 12, 25, 26, 27, 28] [.tmp 2] Tryz.f225.ntmps := ir_ Tryz.func225
abbrev slConcatC.Ret (args : List AV) (r : AV) (frs : Fr) : Prop := Abs.Ret true Tryz.prog 225 args r frs
abbrev slGrowC.Ret (args : List AV) (r : AV) (frs : Fr) : Prop := Abs.Ret true Tryz.prog 241 args r frs
end Go.Proofs.YtiloafmpienmhaaGreat
namespace Go.Proofs.YtiloafmpienmhaaGreat
open Abs
theorem tAction_pat (x : VAction) : tPattern.size x.2 ≤ tAction.size x := by
  have h : tAction.size x = 0 + tPattern.size x.2 := rfl
  omega
theorem act_has {x : VAction} (h : hasKind x.1 = true) : isPatF x.2 = isActF x := by rw [isActF, if_pos h]
theorem act_stop {x : VAction} (h : x.1 = 3) : zeroP x.2 = isActF x := by rw [isActF, if_neg (by simp [hasKind, h]), if_pos h]
theorem act_no {x : VAction} (h1 : x.1 ≠ 1) (h2 : x.1 ≠ 2) (h3 : x.1 ≠ 3) : false = isActF x := by rw [isActF, if_neg (by simp [hasKind, h1, h2]), if_neg h3]
theorem sIsAction.ret (x : VAction) (h : tAction.size x ≤ 1048576) : sIsAction.Ret [.agg (oldL (tAction.q x))] (.val (.bool (isActF x))) [] := by
  refine sIsAction.ir.of rfl ?_
  have hp := tAction_pat x
  repeat' first
    | (conv => whnf
       first | refine Need.mk (fun h => h) ?_ | refine Need.mk rfl ?_ | refine nb_ ?_ | refine Fork.decYes (by omega) ?_ | refine Fork.dec (fun _ => ?_) (fun _ => ?_) | refine LitO.own rfl ?_ | refine FinVal.keep ?_ | refine Final.mk ?_ rfl | refine ACall.scalA _ _ (sIsPattern.ret _ ?_) rfl ?_)
    | refine AV.bool_congr ?_
  all_goals first
    | omega
    | (refine act_has ?_; simp [hasKind, *]; done)
    | (rw [length_oldLL, List.length_map]; exact act_stop (by assumption))
    | exact act_no (by assumption) (by assumption) (by assumption)
theorem pIsAction.ret (x : VAction) (h : tAction.size x ≤ 1048576) : pIsAction.Ret [.agg (oldL (tAction.q x))] (.val (.bool (isActF x))) [] := by
  refine pIsAction.ir.of rfl ?_
  have hp := tAction_pat x
  have hzp := pzero.ret x.2 (by omega)
  repeat' first
    | (conv => whnf
       first | refine Need.mk rfl ?_ | refine nb_ ?_ | refine Fork.decYes (by omega) ?_ | refine Fork.dec (fun _ => ?_) (fun _ => ?_) | refine LitO.own rfl ?_ | refine FinVal.keep ?_ | refine Final.mk ?_ rfl | refine ACall.scalA _ _ (pIsPattern.ret _ ?_) rfl ?_ | refine ACall.scalA _ _ (hzp) rfl ?_)
    | refine AV.bool_congr ?_
  all_goals first
    | omega
    | (refine act_has ?_; simp [hasKind, *]; done)
    | exact act_stop (by assumption)
    | exact act_no (by assumption) (by assumption) (by assumption)
theorem cond_le {l : List VCond} {i : Nat} (hi : i < l.length) : tCond.size (l.getD i default) ≤ listSize tCond l := tCond_le hi
theorem own_anyP {F : Fr} {l : List Str} {k : Nat} (hk : F[k]? = some (9, 1, l.length)) : ∃ ts, OwnA F [strT l] [.list (some k) (strs l)] ts ∧ ts.Nodup := own_rowF hk rfl
theorem act_le {l : List VAction} {i : Nat} (hi : i < l.length) : tAction.size (l.getD i default) ≤ listSize tAction l := tAction_le hi
end Go.Proofs.YtiloafmpienmhaaGreat
namespace Go.Proofs.YtiloafmpienmhaaGreat
open Abs
theorem rule_le {l : List VRule} {i : Nat} (hi : i < l.length) : tRule.size (l.getD i default) ≤ listSize tRule l := tRule_le hi
theorem sFindRule.ret (l : List VRule) (f : Str) (h : tRules.size l ≤ 1048576) : sFindRule.Ret [.list none (rows tRule l), .str f] (.val (.int .i64 (findR l f 0))) [] := by
  refine sFindRule.ir.of rfl ?_
  rw [tRules_sz] at h
  skip
  refine ALoop.mk Nat (fun i => ⟨[(0, .list none (rows tRule l)), (1, .str f), (5, .val (.int .i64 i))], [], []⟩) (fun i => i ≤ l.length ∧ findR (l.drop i) f i = findR l f 0) (fun i => l.length - i) ⟨0, ⟨Nat.zero_le _, rfl⟩, ?_⟩ (fun i hi => ?_)
  · repeat' first
      | exact trivial | refine wl_ ?_ ?_ ?_ ?_ | refine And.intro ?_ ?_ | with_reducible rfl | exact ble_ | refine AV.int_congr ?_ | refine AV.str_congr ?_ | refine AV.list_congr ?_ | (apply rfl)
  by_cases hi' : i < l.length
  rotate_left
  · repeat' first
      | (conv => whnf
         first | refine Need.mk rfl ?_ | refine Fork.decN ?_ | refine LitO.own rfl ?_ | refine FinVal.keep ?_ | refine Final.mk ?_ rfl)
      | refine AV.int_congr ?_
    rw [← hi.2, List.drop_eq_nil_of_le (by omega)]; rfl
  have hd := findR_drop (f := f) hi'
  rw [hi.2] at hd
  repeat' first
    | (conv => whnf
       first | refine Need.mk rfl ?_ | refine Ix.mapN (fun _ => rfl) ?_ | refine Fork.decY ?_ | refine Fork.seq (fun _ => ?_) (fun _ => ?_) | refine Round.mk ?_ | refine LitO.own rfl ?_ | refine FinVal.keep ?_ | refine Final.mk ?_ rfl)
    | refine AV.int_congr ?_
  · rename_i h1
    rw [Int.toNat_natCast] at h1
    rw [hd, if_pos h1]
  · rename_i h1
    rw [Int.toNat_natCast] at h1
    refine ⟨i + 1, ⟨by omega, by rw [hd, if_neg h1]⟩, ?_, by omega⟩
    repeat' first
      | exact trivial | refine wl_ ?_ ?_ ?_ ?_ | refine And.intro ?_ ?_ | with_reducible rfl | exact ble_ | refine AV.int_congr ?_ | refine AV.str_congr ?_ | refine AV.list_congr ?_ | (apply rfl)
    rw [wrap64 (by omega) (by omega)]; rfl
theorem pFindRuleClo.ret (r : VRule) (f : Str) : pFindRuleClo.Ret [.agg (oldL (tRule.q r)), .rptr [.str f]] (.val (.bool (r.1 == f))) [] := by
  refine pFindRuleClo.ir.of rfl ?_
  repeat' first
    | (conv => whnf
       first | refine FinVal.keep ?_ | refine Final.mk rfl rfl)
theorem slIndexFuncR.ret (l : List VRule) (f : Str) (h : tRules.size l ≤ 1048576) : slIndexFuncR.Ret [.list none (rows tRule l), .clo 109 [] [.rptr [.str f]]] (.val (.int .i64 (findR l f 0))) [] := by
  refine slIndexFuncR.ir.of rfl ?_
  rw [tRules_sz] at h
  skip
  refine ALoop.mk Nat (fun i => ⟨[(0, .list none (rows tRule l)), (1, .clo 109 [] [.rptr [.str f]]), (7, .val (.int .i64 l.length)), (8, .val (.int .i64 i))], [], []⟩) (fun i => i ≤ l.length ∧ findR (l.drop i) f i = findR l f 0) (fun i => l.length - i) ⟨0, ⟨Nat.zero_le _, rfl⟩, ?_⟩ (fun i hi => ?_)
  · repeat' first
      | exact trivial | refine wl_ ?_ ?_ ?_ ?_ | refine And.intro ?_ ?_ | with_reducible rfl | exact ble_ | refine AV.int_congr ?_ | refine AV.list_congr ?_ | (apply rfl)
    simp
  by_cases hi' : i < l.length
  rotate_left
  · repeat' first
      | (conv => whnf
         first | refine Need.mk rfl ?_ | refine Fork.decN ?_ | refine LitO.own rfl ?_ | refine FinVal.keep ?_ | refine Final.mk ?_ rfl)
      | refine AV.int_congr ?_
    rw [← hi.2, List.drop_eq_nil_of_le (by omega)]; rfl
  have hd := findR_drop (f := f) hi'
  rw [hi.2] at hd
  repeat' first
    | (conv => whnf
       first | refine Need.mk rfl ?_ | refine nb_ ?_ | refine Ix.mapN (fun _ => rfl) ?_ | refine Fork.decY ?_ | refine Fork.seq (fun _ => ?_) (fun _ => ?_) | refine Round.mk ?_ | refine LitO.own rfl ?_ | refine FinVal.keep ?_ | refine Final.mk ?_ rfl | refine ACall.scalC _ _ (pFindRuleClo.ret _ _) rfl ?_)
    | refine AV.int_congr ?_
  · rename_i h1
    rw [Int.toNat_natCast] at h1
    rw [hd, if_pos h1]
  · rename_i h1
    rw [Int.toNat_natCast] at h1
    refine ⟨i + 1, ⟨by omega, by rw [hd, if_neg h1]⟩, ?_, by omega⟩
    repeat' first
      | exact trivial | refine wl_ ?_ ?_ ?_ ?_ | refine And.intro ?_ ?_ | with_reducible rfl | exact ble_ | refine AV.int_congr ?_ | refine AV.list_congr ?_ | (apply rfl)
    rw [wrap64 (by omega) (by omega)]; rfl
theorem pFindRule.ret (l : List VRule) (f : Str) (h : tRules.size l ≤ 1048576) : pFindRule.Ret [.list none (rows tRule l), .str f] (.val (.int .i64 (findR l f 0))) [] := by
  refine pFindRule.ir.of rfl ?_
  repeat' first
    | (conv => whnf
       first | refine Need.mk ?_ ?_ | refine FinVal.keep ?_ | refine Final.mk rfl rfl | refine ACall.scalC _ _ (slIndexFuncR.ret _ _ ?_) rfl ?_)
  · exact ⟨rfl, rfl⟩
  · exact h
end Go.Proofs.YtiloafmpienmhaaGreat
namespace Go.Proofs.YtiloafmpienmhaaGreat
open Abs
theorem put_step {m v : List Str} {k : Nat} (hk : k < v.length) : insAll blt (m ++ v.take (k + 1)) = ins blt (v.getD k []) false (insAll blt (m ++ v.take k)) := by
  rw [take_succ' [] hk, ← List.append_assoc, ins_snoc]
theorem bvC_yes {x : VCond} (h : x.1 = 1) : bvC x = insAll blt (vs x.2.1.2) := by rw [bvC, if_pos h]
theorem bvC_no {x : VCond} (h : x.1 ≠ 1) : bvC x = [] := by rw [bvC, if_neg h]
theorem ins_app_le (m v : List Str) (k : Nat) : (insAll blt (m ++ v.take k)).length ≤ m.length + v.length := by
  refine Nat.le_trans (insAll_le _) ?_
  rw [List.length_append, List.length_take]; omega
theorem sBoundVars.own (r : VRule) (n : Int) (h : tRule.size r ≤ 1048576) : sBoundVars.Own [.agg (oldL (tRule.q r)), .val (.int .i64 n)] (strT (bvF r.2.2.1 n.toNat)) := by
  refine Abs.IrAt.ownP sBoundVars.ir rfl ?_
  rw [tRule_sz] at h
  repeat' first
    | (conv => whnf
       first | refine Need.mk rfl ?_ | refine LitO.own rfl ?_)
  refine ALoop.mk (Nat × Nat × Fr) (fun a => ⟨[(1, .val (.int .i64 n)), (2, .bptr 0 0), (5, .list (some a.2.1) (strs (insAll blt (fm bvC (r.2.2.1.take a.1))))), (6, .val (.int .i64 a.1))], [.cells .var (oldL (tRule.q r))], a.2.2⟩) (fun a => a.1 ≤ r.2.2.1.length ∧ (a.1 : Int) ≤ max n 0 ∧ a.2.2[a.2.1]? = some (9, 1, (insAll blt (fm bvC (r.2.2.1.take a.1))).length)) (fun a => r.2.2.1.length - a.1) ⟨(0, 0, [(9, 1, 0)]), ⟨Nat.zero_le _, by show (0 : Int) ≤ _; omega, rfl⟩, ?_⟩ (fun a ha => ?_)
  · repeat' first
      | exact trivial | refine wl_ ?_ ?_ ?_ ?_ | refine And.intro ?_ ?_ | with_reducible rfl | exact ble_ | refine fr1 ?_ | refine AV.int_congr ?_ | refine AV.list_congr ?_ | (apply rfl)
  obtain ⟨hi, hn, hF⟩ := ha
  have hl := fm_lenT tCond bvC bvC_len r.2.2.1 a.1
  by_cases hi' : a.1 < r.2.2.1.length ∧ (a.1 : Int) < n
  rotate_left
  · repeat' first
      | (conv => whnf
         first | refine Need.mk (fun h => h) ?_ | refine Need.mk rfl ?_ | refine Fork.andN ?_ | refine LitO.own rfl ?_)
    have e : r.2.2.1.take a.1 = r.2.2.1.take n.toNat := by
      rcases Nat.lt_or_ge a.1 r.2.2.1.length with h1 | h1
      · have : a.1 = n.toNat := by omega
        rw [this]
      · rw [List.take_of_length_le h1, List.take_of_length_le (by omega)]
    rw [e] at hF
    rw [e]
    exact own_anyP hF
  have hc := cond_le hi'.1
  have hz := tCond_sz (r.2.2.1.getD a.1 default)
  have hp := tCond_pat (r.2.2.1.getD a.1 default)
  have hstep := fm_take default bvC hi'.1
  have hbl := bvC_len (r.2.2.1.getD a.1 default)
  have hvo := sVarsOf.own (r.2.2.1.getD a.1 default).2.1 (by omega)
  have hok := ok_strT (insAll blt (vs (r.2.2.1.getD a.1 default).2.1.2))
  by_cases hk1 : (r.2.2.1.getD a.1 default).1 = 1
  rotate_left
  · rw [bvC_no hk1, List.append_nil] at hstep
    repeat' first
      | (conv => whnf
         first | refine Need.mk (fun h => h) ?_ | refine Need.mk rfl ?_ | refine Ix.mapN (fun _ => rfl) ?_ | refine Fork.andY ?_ | refine Fork.decN ?_ | refine Round.mk ?_ | refine LitO.own rfl ?_)
    refine ⟨(a.1 + 1, a.2.1, a.2.2), ⟨by omega, by show ((a.1 + 1 : Nat) : Int) ≤ _; omega, by rw [hstep]; exact hF⟩, ?_, by omega⟩
    repeat' first
      | exact trivial | refine wl_ ?_ ?_ ?_ ?_ | refine And.intro ?_ ?_ | with_reducible rfl | exact ble_ | refine AV.int_congr ?_ | refine AV.list_congr ?_ | (apply rfl)
    · rw [hstep]
    · rw [wrap64 (by omega) (by omega)]; rfl
  rw [← bvC_yes hk1] at hvo hok
  repeat' first
    | (conv => whnf
       first | refine Need.mk (fun h => h) ?_ | refine Need.mk rfl ?_ | refine nb_ ?_ | refine Ix.mapN (fun _ => rfl) ?_ | refine Fork.decY ?_ | refine Fork.andY ?_ | refine LitO.own rfl ?_ | refine ACall.oldA _ _ (hvo) ?_)
  · refine ALoop.mk (Nat × Nat × Fr) (fun c => ⟨[(1, .val (.int .i64 n)), (2, .bptr 0 0), (5, .list (some c.2.1) (strs (insAll blt (fm bvC (r.2.2.1.take a.1) ++ (bvC (r.2.2.1.getD a.1 default)).take c.1)))), (6, .val (.int .i64 a.1)), (7, .list none (strs (bvC (r.2.2.1.getD a.1 default)))), (8, .val (.int .i64 c.1))], [.cells .var (oldL (tRule.q r))], c.2.2⟩) (fun c => c.1 ≤ (bvC (r.2.2.1.getD a.1 default)).length ∧ c.2.2[c.2.1]? = some (9, 1, (insAll blt (fm bvC (r.2.2.1.take a.1) ++ (bvC (r.2.2.1.getD a.1 default)).take c.1)).length)) (fun c => (bvC (r.2.2.1.getD a.1 default)).length - c.1) ⟨(0, a.2.1, a.2.2), ⟨Nat.zero_le _, by rw [List.take_zero, List.append_nil]; exact hF⟩, ?_⟩ (fun c hcc => ?_)
    · repeat' first
        | exact trivial | refine wl_ ?_ ?_ ?_ ?_ | refine And.intro ?_ ?_ | with_reducible rfl | exact ble_ | refine AV.int_congr ?_ | refine AV.list_congr ?_ | (apply rfl)
      show strs _ = strs (insAll blt (fm bvC (r.2.2.1.take a.1) ++ List.take 0 _))
      rw [List.take_zero, List.append_nil]
    obtain ⟨hk, hG⟩ := hcc
    by_cases hk' : c.1 < (bvC (r.2.2.1.getD a.1 default)).length
    rotate_left
    · rw [List.take_of_length_le (show (bvC (r.2.2.1.getD a.1 default)).length ≤ c.1 by omega), ← hstep] at hG
      repeat' first
        | (conv => whnf
           first | refine Need.mk rfl ?_ | refine Fork.decN ?_ | refine Round.mk ?_ | refine LitO.own rfl ?_)
      refine ⟨(a.1 + 1, c.2.1, c.2.2), ⟨by omega, by show ((a.1 + 1 : Nat) : Int) ≤ _; omega, hG⟩, ?_, by omega⟩
      repeat' first
        | exact trivial | refine wl_ ?_ ?_ ?_ ?_ | refine And.intro ?_ ?_ | with_reducible rfl | exact ble_ | refine AV.int_congr ?_ | refine AV.list_congr ?_ | (apply rfl)
      · rw [List.take_of_length_le (show (bvC (r.2.2.1.getD a.1 default)).length ≤ c.1 by omega), ← hstep]
      · rw [wrap64 (by omega) (by omega)]; rfl
    have hst := put_step (m := fm bvC (r.2.2.1.take a.1)) hk'
    have hle := ins_app_le (fm bvC (r.2.2.1.take a.1)) (bvC (r.2.2.1.getD a.1 default)) c.1
    have hl1 := fm_lenT tCond bvC bvC_len r.2.2.1 (a.1 + 1)
    rw [hstep, List.length_append] at hl1
    repeat' first
      | (conv => whnf
         first | refine Need.mk rfl ?_ | refine Ix.strsN rfl ?_ | refine Fork.decY ?_ | refine Round.mk ?_ | refine LitO.own rfl ?_ | refine ACall.mkStrs _ _ (sPut.ret _ _ ?_) (by repeat' first | exact SeesL.nil | refine SeesL.cons ?_ ?_ | exact SeesB.of0 (Sees0.val _) | exact SeesB.of0 (Sees0.str _) | exact SeesB.of0 (Sees0.olds _ _) | exact SeesB.of0 (Sees0.old _) | exact SeesB.of0 (Sees0.oldagg _) | exact SeesB.of0 Sees0.nil | exact Sees0.val _ | exact Sees0.str _ | exact Sees0.olds _ _ | exact Sees0.old _ | exact Sees0.oldagg _ | exact Sees0.nil | exact SeesB.of0 (Sees0.any _) | assumption | exact sees_gv _ _ _ (by assumption) (by first | assumption | exact BoxIn.last _ _ | exact BoxIn.more (BoxIn.last _ _) _) | refine SeesB.agg ?_ | refine Sees0.agg ?_ | exact SeesB.of0 (Sees0.clo SeesL.nil SeesL.nil) | exact Sees0.clo SeesL.nil SeesL.nil | exact SeesB.of0 (Sees0.list rfl) | exact Sees0.list rfl) ?_)
    · omega
    refine ⟨(c.1 + 1, c.2.2.length, c.2.2 ++ [(9, 1, (insAll blt (fm bvC (r.2.2.1.take a.1) ++ (bvC (r.2.2.1.getD a.1 default)).take (c.1 + 1))).length)]), ⟨by omega, by simp⟩, ?_, by omega⟩
    repeat' first
      | exact trivial | refine wl_ ?_ ?_ ?_ ?_ | refine And.intro ?_ ?_ | with_reducible rfl | exact ble_ | refine AV.int_congr ?_ | refine AV.list_congr ?_ | (apply rfl)
    · show strs _ = strs (insAll blt (fm bvC (r.2.2.1.take a.1) ++ (bvC (r.2.2.1.getD a.1 default)).take (c.1 + 1)))
      rw [hst, Int.toNat_natCast] <;> rfl
    · rw [wrap64 (by omega) (by omega)]; rfl
    · show c.2.2 ++ [(9, 1, (ins blt ((bvC (r.2.2.1.getD a.1 default)).getD c.1 []) false (insAll blt (fm bvC (r.2.2.1.take a.1) ++ (bvC (r.2.2.1.getD a.1 default)).take c.1))).length)] = c.2.2 ++ [_]
      rw [hst]
theorem take_min {α : Type} (l : List α) (n : Int) : (l.take (min (max n 0) (l.length : Int)).toNat).drop (0 : Int).toNat = l.take n.toNat := by
  rw [show (0 : Int).toNat = 0 from rfl, List.drop_zero]
  rcases Int.le_total n l.length with h | h
  · have : (min (max n 0) (l.length : Int)).toNat = n.toNat := by omega
    rw [this]
  · have : (min (max n 0) (l.length : Int)).toNat = l.length := by omega
    rw [this, List.take_length, List.take_of_length_le (by omega)]
theorem pBoundVars.own (r : VRule) (n : Int) (h : tRule.size r ≤ 1048576) : pBoundVars.Own [.agg (oldL (tRule.q r)), .val (.int .i64 n)] (strT (bvF r.2.2.1 n.toNat)) := by
  refine own_row (k := 1) rfl (?_ : pBoundVars.Ret _ (.list (some 1) (strs (bvF r.2.2.1 n.toNat))) [(9, 1, (fm bvC (r.2.2.1.take n.toNat)).length), (9, 1, (bvF r.2.2.1 n.toNat).length)])
  refine pBoundVars.ir.of rfl ?_
  rw [tRule_sz] at h
  have htm := take_min r.2.2.1 n
  have hLs := listSize_take_le tCond r.2.2.1 n.toNat
  have hLl : (r.2.2.1.take n.toNat).length ≤ r.2.2.1.length := by rw [List.length_take]; omega
  rw [show bvF r.2.2.1 n.toNat = insAll blt (fm bvC (r.2.2.1.take n.toNat)) from rfl]
  generalize hL : r.2.2.1.take n.toNat = L at htm hLs hLl
  repeat' first
    | (conv => whnf
       first | refine Need.mk rfl ?_ | refine Cut.map (fun _ => rfl) ?_ ?_ | refine LitO.own rfl ?_)
  · intro _
    simp only [length_oldLL, List.length_map]
    show (0 : Int) ≤ 0 ∧ (0 : Int) ≤ _ ∧ _
    omega
  refine ALoop.mk Nat (fun i => ⟨[(5, .list (some 0) (strs (fm bvC (L.take i)))), (17, .list none (rows tCond L)), (18, .val (.int .i64 L.length)), (19, .val (.int .i64 i))], [.cells .var (oldL (tRule.q r))], [(9, 1, (fm bvC (L.take i)).length)]⟩) (fun i => i ≤ L.length) (fun i => L.length - i) ⟨0, Nat.zero_le _, ?_⟩ (fun i hi => ?_)
  · repeat' first
      | exact trivial | refine wl_ ?_ ?_ ?_ ?_ | refine And.intro ?_ ?_ | exact ble_ | refine fr1 ?_ | refine AV.int_congr ?_ | refine AV.list_congr ?_ | (apply rfl)
    · show oldLL (List.map tCond.q (List.drop (0 : Int).toNat _)) = _
      rw [length_oldLL, List.length_map, htm]; rfl
    · show ((oldLL (List.map tCond.q (List.drop (0 : Int).toNat _))).length : Int) = _
      rw [length_oldLL, length_oldLL, List.length_map, List.length_map, htm]
  have hl := fm_lenT tCond bvC bvC_len L i
  by_cases hi' : i < L.length
  rotate_left
  · rw [show fm bvC L = fm bvC (L.take i) by rw [List.take_of_length_le (by omega)]]
    repeat' first
      | (conv => whnf
         first | refine Need.mk rfl ?_ | refine Fork.decN ?_ | refine LitO.own rfl ?_ | refine Final.mk rfl rfl | refine ACall.mkStrs _ _ (pSortedTexts.ret _ ?_) (by repeat' first | exact SeesL.nil | refine SeesL.cons ?_ ?_ | exact SeesB.of0 (Sees0.val _) | exact SeesB.of0 (Sees0.str _) | exact SeesB.of0 (Sees0.olds _ _) | exact SeesB.of0 (Sees0.old _) | exact SeesB.of0 (Sees0.oldagg _) | exact SeesB.of0 Sees0.nil | exact Sees0.val _ | exact Sees0.str _ | exact Sees0.olds _ _ | exact Sees0.old _ | exact Sees0.oldagg _ | exact Sees0.nil | exact SeesB.of0 (Sees0.any _) | assumption | exact sees_gv _ _ _ (by assumption) (by first | assumption | exact BoxIn.last _ _ | exact BoxIn.more (BoxIn.last _ _) _) | refine SeesB.agg ?_ | refine Sees0.agg ?_ | exact SeesB.of0 (Sees0.clo SeesL.nil SeesL.nil) | exact Sees0.clo SeesL.nil SeesL.nil | exact SeesB.of0 (Sees0.list rfl) | exact Sees0.list rfl) ?_)
    omega
  have hc := cond_le hi'
  have hz := tCond_sz (L.getD i default)
  have hp := tCond_pat (L.getD i default)
  have hstep := fm_take default bvC hi'
  have hl1 := fm_lenT tCond bvC bvC_len L (i + 1)
  rw [hstep, List.length_append] at hl1
  by_cases hk1 : (L.getD i default).1 = 1
  rotate_left
  · rw [bvC_no hk1, List.append_nil] at hstep
    repeat' first
      | (conv => whnf
         first | refine Need.mk rfl ?_ | refine Need.mk ⟨rfl, Nat.le_of_ble_eq_true rfl⟩ ?_ | refine nb_ ?_ | refine Ix.mapN (fun _ => rfl) ?_ | refine Fork.decY ?_ | refine Fork.decN ?_ | refine Round.mk ?_ | refine LitO.own rfl ?_)
    refine ⟨i + 1, by omega, ?_, by omega⟩
    repeat' first
      | exact trivial | refine wr_ ?_ ?_ ?_ ?_ | refine And.intro ?_ ?_ | with_reducible rfl | exact ble_ | refine fr1 ?_ | refine AV.int_congr ?_ | refine AV.list_congr ?_ | (apply rfl)
    · rw [hstep]
    · rw [wrap64 (by omega) (by omega)]; rfl
    · rw [hstep]
  have hvo := pVarsOf.own (L.getD i default).2.1 (by omega)
  have hok := ok_strT (insAll blt (vs (L.getD i default).2.1.2))
  rw [← bvC_yes hk1] at hvo hok
  repeat' first
    | (conv => whnf
       first | refine Need.mk rfl ?_ | refine Need.mk ⟨rfl, Nat.le_of_ble_eq_true rfl⟩ ?_ | refine nb_ ?_ | refine Need.finN ?_ | refine Need.mk ?_ ?_ | refine Ix.mapN (fun _ => rfl) ?_ | refine Fork.decY ?_ | refine Round.mk ?_ | refine LitO.own rfl ?_ | refine ACall.oldA _ _ (hvo) ?_)
  · simp
  · exact strs_sz _
  · refine ⟨i + 1, by omega, ?_, by omega⟩
    repeat' first
      | exact trivial | refine wr_ ?_ ?_ ?_ ?_ | refine And.intro ?_ ?_ | with_reducible rfl | exact ble_ | refine fr1 ?_ | refine AV.int_congr ?_ | refine AV.list_congr ?_ | (apply rfl)
    · rw [hstep, strs_append] <;> rfl
    · rw [wrap64 (by omega) (by omega)]; rfl
    · show (strs _).length + (strs (bvC (L.getD i default))).length = _
      rw [hstep, length_strs, length_strs, List.length_append]
theorem pvarsOfConds.ret (l : List VCond) (h : tConds.size l ≤ 1048576) : pvarsOfConds.Ret [.list none (rows tCond l)] (.list (some 1) (strs (cvsF l))) [(9, 1, (fm cvC l).length), (9, 1, (cvsF l).length)] := by
  refine pvarsOfConds.ir.of rfl ?_
  rw [tConds_sz] at h
  repeat' first
    | (conv => whnf
       first | refine Need.mk rfl ?_ | refine LitO.own rfl ?_)
  refine ALoop.mk Nat (fun i => ⟨[(3, .list (some 0) (strs (fm cvC (l.take i)))), (7, .list none (rows tCond l)), (8, .val (.int .i64 l.length)), (9, .val (.int .i64 i))], [], [(9, 1, (fm cvC (l.take i)).length)]⟩) (fun i => i ≤ l.length) (fun i => l.length - i) ⟨0, Nat.zero_le _, ?_⟩ (fun i hi => ?_)
  · repeat' first
      | exact trivial | refine wl_ ?_ ?_ ?_ ?_ | refine And.intro ?_ ?_ | with_reducible rfl | exact ble_ | refine fr1 ?_ | refine AV.int_congr ?_ | refine AV.list_congr ?_ | (apply rfl)
    simp
  have hl := fm_lenT tCond cvC cvC_len l i
  by_cases hi' : i < l.length
  rotate_left
  · rw [show fm cvC l = fm cvC (l.take i) by rw [List.take_of_length_le (by omega)], show cvsF l = insAll blt (fm cvC (l.take i)) by rw [List.take_of_length_le (by omega)]; rfl]
    repeat' first
      | (conv => whnf
         first | refine Need.mk rfl ?_ | refine Fork.decN ?_ | refine LitO.own rfl ?_ | refine Final.mk rfl rfl | refine ACall.mkStrs _ _ (pSortedTexts.ret _ ?_) (by repeat' first | exact SeesL.nil | refine SeesL.cons ?_ ?_ | exact SeesB.of0 (Sees0.val _) | exact SeesB.of0 (Sees0.str _) | exact SeesB.of0 (Sees0.olds _ _) | exact SeesB.of0 (Sees0.old _) | exact SeesB.of0 (Sees0.oldagg _) | exact SeesB.of0 Sees0.nil | exact Sees0.val _ | exact Sees0.str _ | exact Sees0.olds _ _ | exact Sees0.old _ | exact Sees0.oldagg _ | exact Sees0.nil | exact SeesB.of0 (Sees0.any _) | assumption | exact sees_gv _ _ _ (by assumption) (by first | assumption | exact BoxIn.last _ _ | exact BoxIn.more (BoxIn.last _ _) _) | refine SeesB.agg ?_ | refine Sees0.agg ?_ | exact SeesB.of0 (Sees0.clo SeesL.nil SeesL.nil) | exact Sees0.clo SeesL.nil SeesL.nil | exact SeesB.of0 (Sees0.list rfl) | exact Sees0.list rfl) ?_)
    omega
  have hc := cond_le hi'
  have hstep := fm_take default cvC hi'
  have hl1 := fm_lenT tCond cvC cvC_len l (i + 1)
  rw [hstep, List.length_append] at hl1
  have hvo := pCondVars.own (l.getD i default) (by omega)
  have hok := ok_strT (cvC (l.getD i default))
  rw [show insAll blt (vs (cvF (l.getD i default))) = cvC (l.getD i default) from rfl] at hvo
  repeat' first
    | (conv => whnf
       first | refine Need.mk rfl ?_ | refine Need.mk ⟨rfl, Nat.le_of_ble_eq_true rfl⟩ ?_ | refine nb_ ?_ | refine Need.finN ?_ | refine Need.mk ?_ ?_ | refine Ix.mapN (fun _ => rfl) ?_ | refine Fork.decY ?_ | refine Round.mk ?_ | refine LitO.own rfl ?_ | refine ACall.oldA _ _ (hvo) ?_)
  · simp
  · exact strs_sz _
  · refine ⟨i + 1, by omega, ?_, by omega⟩
    repeat' first
      | exact trivial | refine wr_ ?_ ?_ ?_ ?_ | refine And.intro ?_ ?_ | with_reducible rfl | exact ble_ | refine fr1 ?_ | refine AV.int_congr ?_ | refine AV.list_congr ?_ | (apply rfl)
    · rw [hstep, strs_append] <;> rfl
    · rw [wrap64 (by omega) (by omega)]; rfl
    · show (strs _).length + (strs (cvC (l.getD i default))).length = _
      rw [hstep, length_strs, length_strs, List.length_append]
theorem pvarsOfConds.own (l : List VCond) (h : tConds.size l ≤ 1048576) : pvarsOfConds.Own [.list none (rows tCond l)] (strT (cvsF l)) := own_row rfl (pvarsOfConds.ret l h)
theorem cvs_len (l : List VCond) : (cvsF l).length ≤ listSize tCond l := Nat.le_trans (insAll_le _) (fm_len tCond cvC cvC_len l)
theorem pRuleVars.own (r : VRule) (h : tRule.size r ≤ 1048576) : pRuleVars.Own [.agg (oldL (tRule.q r))] (strT (rvF r.2.2.1 r.2.2.2)) := by
  refine own_row (k := 2) rfl (?_ : pRuleVars.Ret _ (.list (some 2) (strs (rvF r.2.2.1 r.2.2.2))) [(9, 1, (fm cvC r.2.2.1).length), (9, 1, (cvsF r.2.2.1 ++ fm avC r.2.2.2).length), (9, 1, (rvF r.2.2.1 r.2.2.2).length)])
  refine pRuleVars.ir.of rfl ?_
  have hrs := tRule_size r
  have htc : tConds.size r.2.2.1 ≤ 1048576 := by omega
  rw [tRule_sz] at h
  have hcl := cvs_len r.2.2.1
  have hrv : rvF r.2.2.1 r.2.2.2 = insAll blt (cvsF r.2.2.1 ++ fm avC r.2.2.2) := (insB_left _ _).symm
  rw [hrv]
  have hvc := pvarsOfConds.ret r.2.2.1 htc
  repeat' first
    | (conv => whnf
       first | refine ACall.mkLA _ _ _ _ (hvc) ?_)
  refine ALoop.mk Nat (fun i => ⟨[(3, .list (some 1) (strs (cvsF r.2.2.1 ++ fm avC (r.2.2.2.take i)))), (10, .list none (rows tAction r.2.2.2)), (11, .val (.int .i64 r.2.2.2.length)), (12, .val (.int .i64 i))], [.cells .var (oldL (tRule.q r))], [(9, 1, (fm cvC r.2.2.1).length), (9, 1, (cvsF r.2.2.1 ++ fm avC (r.2.2.2.take i)).length)]⟩) (fun i => i ≤ r.2.2.2.length) (fun i => r.2.2.2.length - i) ⟨0, Nat.zero_le _, ?_⟩ (fun i hi => ?_)
  · repeat' first
      | exact trivial | refine wl_ ?_ ?_ ?_ ?_ | refine And.intro ?_ ?_ | with_reducible rfl | exact ble_ | refine fr2 ?_ ?_ | refine AV.int_congr ?_ | refine AV.list_congr ?_ | (apply rfl)
    · simp [fm]; rfl
    · simp
    · simp [fm]
  have hl := fm_lenT tAction avC avC_len r.2.2.2 i
  by_cases hi' : i < r.2.2.2.length
  rotate_left
  · rw [show fm avC r.2.2.2 = fm avC (r.2.2.2.take i) by rw [List.take_of_length_le (by omega)]]
    repeat' first
      | (conv => whnf
         first | refine Need.mk rfl ?_ | refine Fork.decN ?_ | refine LitO.own rfl ?_ | refine Final.mk rfl rfl | refine ACall.mkStrs _ _ (pSortedTexts.ret _ ?_) (by repeat' first | exact SeesL.nil | refine SeesL.cons ?_ ?_ | exact SeesB.of0 (Sees0.val _) | exact SeesB.of0 (Sees0.str _) | exact SeesB.of0 (Sees0.olds _ _) | exact SeesB.of0 (Sees0.old _) | exact SeesB.of0 (Sees0.oldagg _) | exact SeesB.of0 Sees0.nil | exact Sees0.val _ | exact Sees0.str _ | exact Sees0.olds _ _ | exact Sees0.old _ | exact Sees0.oldagg _ | exact Sees0.nil | exact SeesB.of0 (Sees0.any _) | assumption | exact sees_gv _ _ _ (by assumption) (by first | assumption | exact BoxIn.last _ _ | exact BoxIn.more (BoxIn.last _ _) _) | refine SeesB.agg ?_ | refine Sees0.agg ?_ | exact SeesB.of0 (Sees0.clo SeesL.nil SeesL.nil) | exact Sees0.clo SeesL.nil SeesL.nil | exact SeesB.of0 (Sees0.list rfl) | exact Sees0.list rfl) ?_)
    rw [List.length_append]; omega
  have hc := act_le hi'
  have hp := tAction_pat (r.2.2.2.getD i default)
  have hstep := fm_take default avC hi'
  have hl1 := fm_lenT tAction avC avC_len r.2.2.2 (i + 1)
  rw [hstep, List.length_append] at hl1
  have hvo := pVarsOf.own (r.2.2.2.getD i default).2 (by omega)
  have hok := ok_strT (avC (r.2.2.2.getD i default))
  rw [show insAll blt (vs (r.2.2.2.getD i default).2.2) = avC (r.2.2.2.getD i default) from rfl] at hvo
  repeat' first
    | (conv => whnf
       first | refine Need.mk rfl ?_ | refine Need.mk ⟨rfl, Nat.le_of_ble_eq_true rfl⟩ ?_ | refine nb_ ?_ | refine Need.mk ?_ ?_ | refine Ix.mapN (fun _ => rfl) ?_ | refine Fork.decY ?_ | refine Round.mk ?_ | refine LitO.own rfl ?_ | refine ACall.oldA _ _ (hvo) ?_)
  · simp
  · exact strs_sz _
  · show ((strs _).length + (strs (avC (r.2.2.2.getD i default))).length) * 16 ≤ _ ∧ _ + (strs (avC (r.2.2.2.getD i default))).length ≤ _
    rw [length_strs, length_strs, List.length_append]; omega
  · refine ⟨i + 1, by omega, ?_, by omega⟩
    repeat' first
      | exact trivial | refine wr_ ?_ ?_ ?_ ?_ | refine And.intro ?_ ?_ | with_reducible rfl | exact ble_ | refine fr2 ?_ ?_ | refine AV.int_congr ?_ | refine AV.list_congr ?_ | (apply rfl)
    · rw [hstep, ← List.append_assoc, strs_append (_ ++ _)] <;> rfl
    · rw [wrap64 (by omega) (by omega)]; rfl
    · show (strs _).length + (strs (avC (r.2.2.2.getD i default))).length = _
      rw [hstep, length_strs, length_strs]; simp only [List.length_append]; omega
set_option maxHeartbeats 4000000 in
theorem sRuleVars.own (r : VRule) (h : tRule.size r ≤ 1048576) : sRuleVars.Own [.agg (oldL (tRule.q r))] (strT (rvF r.2.2.1 r.2.2.2)) := by
  refine Abs.IrAt.ownP sRuleVars.ir rfl ?_
  rw [tRule_sz] at h
  have hcl := fm_len tCond cvC cvC_len r.2.2.1
  repeat' first
    | (conv => whnf
       first | refine Need.mk rfl ?_ | refine LitO.own rfl ?_)
  refine ALoop.mk (Nat × Nat × Fr) (fun a => ⟨[(1, .bptr 0 0), (3, .list (some a.2.1) (strs (insAll blt (fm cvC (r.2.2.1.take a.1))))), (4, .val (.int .i64 a.1))], [.cells .var (oldL (tRule.q r))], a.2.2⟩) (fun a => a.1 ≤ r.2.2.1.length ∧ a.2.2[a.2.1]? = some (9, 1, (insAll blt (fm cvC (r.2.2.1.take a.1))).length)) (fun a => r.2.2.1.length - a.1) ⟨(0, 0, [(9, 1, 0)]), ⟨Nat.zero_le _, rfl⟩, ?_⟩ (fun a ha => ?_)
  · repeat' first
      | exact trivial | refine wl_ ?_ ?_ ?_ ?_ | refine And.intro ?_ ?_ | exact ble_ | refine fr1 ?_ | refine AV.int_congr ?_ | refine AV.list_congr ?_ | (apply rfl)
  obtain ⟨hi, hF⟩ := ha
  have hl := fm_lenT tCond cvC cvC_len r.2.2.1 a.1
  by_cases hi' : a.1 < r.2.2.1.length
  · have hc := cond_le hi'
    have hstep := fm_take default cvC hi'
    have hl1 := fm_lenT tCond cvC cvC_len r.2.2.1 (a.1 + 1)
    rw [hstep, List.length_append] at hl1
    have hvo := sCondVars.own (r.2.2.1.getD a.1 default) (by omega)
    have hok := ok_strT (cvC (r.2.2.1.getD a.1 default))
    rw [show insAll blt (vs (cvF (r.2.2.1.getD a.1 default))) = cvC (r.2.2.1.getD a.1 default) from rfl] at hvo
    repeat' first
      | (conv => whnf
         first | refine Need.mk rfl ?_ | refine nb_ ?_ | refine Ix.mapN (fun _ => rfl) ?_ | refine Fork.decY ?_ | refine LitO.own rfl ?_ | refine ACall.oldA _ _ (hvo) ?_)
    refine ALoop.mk (Nat × Nat × Fr) (fun c => ⟨[(1, .bptr 0 0), (3, .list (some c.2.1) (strs (insAll blt (fm cvC (r.2.2.1.take a.1) ++ (cvC (r.2.2.1.getD a.1 default)).take c.1)))), (4, .val (.int .i64 a.1)), (5, .list none (strs (cvC (r.2.2.1.getD a.1 default)))), (6, .val (.int .i64 c.1))], [.cells .var (oldL (tRule.q r))], c.2.2⟩) (fun c => c.1 ≤ (cvC (r.2.2.1.getD a.1 default)).length ∧ c.2.2[c.2.1]? = some (9, 1, (insAll blt (fm cvC (r.2.2.1.take a.1) ++ (cvC (r.2.2.1.getD a.1 default)).take c.1)).length)) (fun c => (cvC (r.2.2.1.getD a.1 default)).length - c.1) ⟨(0, a.2.1, a.2.2), ⟨Nat.zero_le _, by rw [List.take_zero, List.append_nil]; exact hF⟩, ?_⟩ (fun c hcc => ?_)
    · repeat' first
        | exact trivial | refine wl_ ?_ ?_ ?_ ?_ | refine And.intro ?_ ?_ | with_reducible rfl | exact ble_ | refine AV.int_congr ?_ | refine AV.list_congr ?_ | (apply rfl)
      show strs _ = strs (insAll blt (fm cvC (r.2.2.1.take a.1) ++ List.take 0 _))
      rw [List.take_zero, List.append_nil]
    obtain ⟨hk, hG⟩ := hcc
    by_cases hk' : c.1 < (cvC (r.2.2.1.getD a.1 default)).length
    rotate_left
    · rw [List.take_of_length_le (show (cvC (r.2.2.1.getD a.1 default)).length ≤ c.1 by omega), ← hstep] at hG
      repeat' first
        | (conv => whnf
           first | refine Need.mk rfl ?_ | refine Fork.decN ?_ | refine Round.mk ?_ | refine LitO.own rfl ?_)
      refine ⟨(a.1 + 1, c.2.1, c.2.2), ⟨by omega, hG⟩, ?_, by omega⟩
      repeat' first
        | exact trivial | refine wl_ ?_ ?_ ?_ ?_ | refine And.intro ?_ ?_ | with_reducible rfl | exact ble_ | refine AV.int_congr ?_ | refine AV.list_congr ?_ | (apply rfl)
      · rw [List.take_of_length_le (show (cvC (r.2.2.1.getD a.1 default)).length ≤ c.1 by omega), ← hstep]
      · rw [wrap64 (by omega) (by omega)]; rfl
    have hst := put_step (m := fm cvC (r.2.2.1.take a.1)) hk'
    have hle := ins_app_le (fm cvC (r.2.2.1.take a.1)) (cvC (r.2.2.1.getD a.1 default)) c.1
    repeat' first
      | (conv => whnf
         first | refine Need.mk rfl ?_ | refine Ix.strsN rfl ?_ | refine Fork.decY ?_ | refine Round.mk ?_ | refine LitO.own rfl ?_ | refine ACall.mkStrs _ _ (sPut.ret _ _ ?_) (by repeat' first | exact SeesL.nil | refine SeesL.cons ?_ ?_ | exact SeesB.of0 (Sees0.val _) | exact SeesB.of0 (Sees0.str _) | exact SeesB.of0 (Sees0.olds _ _) | exact SeesB.of0 (Sees0.old _) | exact SeesB.of0 (Sees0.oldagg _) | exact SeesB.of0 Sees0.nil | exact Sees0.val _ | exact Sees0.str _ | exact Sees0.olds _ _ | exact Sees0.old _ | exact Sees0.oldagg _ | exact Sees0.nil | exact SeesB.of0 (Sees0.any _) | assumption | exact sees_gv _ _ _ (by assumption) (by first | assumption | exact BoxIn.last _ _ | exact BoxIn.more (BoxIn.last _ _) _) | refine SeesB.agg ?_ | refine Sees0.agg ?_ | exact SeesB.of0 (Sees0.clo SeesL.nil SeesL.nil) | exact Sees0.clo SeesL.nil SeesL.nil | exact SeesB.of0 (Sees0.list rfl) | exact Sees0.list rfl) ?_)
    · omega
    refine ⟨(c.1 + 1, c.2.2.length, c.2.2 ++ [(9, 1, (insAll blt (fm cvC (r.2.2.1.take a.1) ++ (cvC (r.2.2.1.getD a.1 default)).take (c.1 + 1))).length)]), ⟨by omega, by simp⟩, ?_, by omega⟩
    repeat' first
      | exact trivial | refine wl_ ?_ ?_ ?_ ?_ | refine And.intro ?_ ?_ | with_reducible rfl | exact ble_ | refine AV.int_congr ?_ | refine AV.list_congr ?_ | (apply rfl)
    · show strs _ = strs (insAll blt (fm cvC (r.2.2.1.take a.1) ++ (cvC (r.2.2.1.getD a.1 default)).take (c.1 + 1)))
      rw [hst, Int.toNat_natCast] <;> rfl
    · rw [wrap64 (by omega) (by omega)]; rfl
    · show c.2.2 ++ [(9, 1, (ins blt ((cvC (r.2.2.1.getD a.1 default)).getD c.1 []) false (insAll blt (fm cvC (r.2.2.1.take a.1) ++ (cvC (r.2.2.1.getD a.1 default)).take c.1))).length)] = c.2.2 ++ [_]
      rw [hst]
  have e0 : r.2.2.1.take a.1 = r.2.2.1 := List.take_of_length_le (by omega)
  rw [e0] at hF
  repeat' first
    | (conv => whnf
       first | refine Need.mk rfl ?_ | refine Fork.decN ?_ | refine LitO.own rfl ?_)
  refine ALoop.mk (Nat × Nat × Fr) (fun a => ⟨[(1, .bptr 0 0), (3, .list (some a.2.1) (strs (insAll blt (fm cvC r.2.2.1 ++ fm avC (r.2.2.2.take a.1))))), (7, .val (.int .i64 a.1))], [.cells .var (oldL (tRule.q r))], a.2.2⟩) (fun a => a.1 ≤ r.2.2.2.length ∧ a.2.2[a.2.1]? = some (9, 1, (insAll blt (fm cvC r.2.2.1 ++ fm avC (r.2.2.2.take a.1))).length)) (fun a => r.2.2.2.length - a.1) ⟨(0, a.2.1, a.2.2), ⟨Nat.zero_le _, by rw [List.take_zero, show fm avC [] = [] from rfl, List.append_nil]; exact hF⟩, ?_⟩ (fun b hb => ?_)
  · repeat' first
      | exact trivial | refine wl_ ?_ ?_ ?_ ?_ | refine And.intro ?_ ?_ | with_reducible rfl | exact ble_ | refine AV.int_congr ?_ | refine AV.list_congr ?_ | (apply rfl)
    rw [e0]
    show strs _ = strs (insAll blt (fm cvC r.2.2.1 ++ fm avC (List.take 0 _)))
    rw [List.take_zero, show fm avC [] = [] from rfl, List.append_nil]
  clear hi hF hi' hl e0
  obtain ⟨hi, hF⟩ := hb
  have hl := fm_lenT tAction avC avC_len r.2.2.2 b.1
  by_cases hi' : b.1 < r.2.2.2.length
  rotate_left
  · have e0 : r.2.2.2.take b.1 = r.2.2.2 := List.take_of_length_le (by omega)
    rw [e0] at hF
    repeat' first
      | (conv => whnf
         first | refine Need.mk rfl ?_ | refine Fork.decN ?_ | refine LitO.own rfl ?_)
    rw [e0]
    exact own_anyP hF
  have hc := act_le hi'
  have hp := tAction_pat (r.2.2.2.getD b.1 default)
  have hstep := fm_take default avC hi'
  have hl1 := fm_lenT tAction avC avC_len r.2.2.2 (b.1 + 1)
  rw [hstep, List.length_append] at hl1
  have hvo := sVarsOf.own (r.2.2.2.getD b.1 default).2 (by omega)
  have hok := ok_strT (avC (r.2.2.2.getD b.1 default))
  rw [show insAll blt (vs (r.2.2.2.getD b.1 default).2.2) = avC (r.2.2.2.getD b.1 default) from rfl] at hvo
  repeat' first
    | (conv => whnf
       first | refine Need.mk rfl ?_ | refine nb_ ?_ | refine Ix.mapN (fun _ => rfl) ?_ | refine Fork.decY ?_ | refine LitO.own rfl ?_ | refine ACall.oldA _ _ (hvo) ?_)
  refine ALoop.mk (Nat × Nat × Fr) (fun c => ⟨[(1, .bptr 0 0), (3, .list (some c.2.1) (strs (insAll blt ((fm cvC r.2.2.1 ++ fm avC (r.2.2.2.take b.1)) ++ (avC (r.2.2.2.getD b.1 default)).take c.1)))), (7, .val (.int .i64 b.1)), (8, .list none (strs (avC (r.2.2.2.getD b.1 default)))), (9, .val (.int .i64 c.1))], [.cells .var (oldL (tRule.q r))], c.2.2⟩) (fun c => c.1 ≤ (avC (r.2.2.2.getD b.1 default)).length ∧ c.2.2[c.2.1]? = some (9, 1, (insAll blt ((fm cvC r.2.2.1 ++ fm avC (r.2.2.2.take b.1)) ++ (avC (r.2.2.2.getD b.1 default)).take c.1)).length)) (fun c => (avC (r.2.2.2.getD b.1 default)).length - c.1) ⟨(0, b.2.1, b.2.2), ⟨Nat.zero_le _, by rw [List.take_zero, List.append_nil]; exact hF⟩, ?_⟩ (fun c hcc => ?_)
  · repeat' first
      | exact trivial | refine wl_ ?_ ?_ ?_ ?_ | refine And.intro ?_ ?_ | with_reducible rfl | exact ble_ | refine AV.int_congr ?_ | refine AV.list_congr ?_ | (apply rfl)
    show strs _ = strs (insAll blt ((fm cvC r.2.2.1 ++ fm avC (r.2.2.2.take b.1)) ++ List.take 0 _))
    rw [List.take_zero, List.append_nil]
  obtain ⟨hk, hG⟩ := hcc
  by_cases hk' : c.1 < (avC (r.2.2.2.getD b.1 default)).length
  rotate_left
  · rw [List.take_of_length_le (show (avC (r.2.2.2.getD b.1 default)).length ≤ c.1 by omega), List.append_assoc, ← hstep] at hG
    repeat' first
      | (conv => whnf
         first | refine Need.mk rfl ?_ | refine Fork.decN ?_ | refine Round.mk ?_ | refine LitO.own rfl ?_)
    refine ⟨(b.1 + 1, c.2.1, c.2.2), ⟨by omega, hG⟩, ?_, by omega⟩
    repeat' first
      | exact trivial | refine wl_ ?_ ?_ ?_ ?_ | refine And.intro ?_ ?_ | with_reducible rfl | exact ble_ | refine AV.int_congr ?_ | refine AV.list_congr ?_ | (apply rfl)
    · rw [List.take_of_length_le (show (avC (r.2.2.2.getD b.1 default)).length ≤ c.1 by omega), List.append_assoc, ← hstep]
    · rw [wrap64 (by omega) (by omega)]; rfl
  have hst := put_step (m := fm cvC r.2.2.1 ++ fm avC (r.2.2.2.take b.1)) hk'
  have hle := ins_app_le (fm cvC r.2.2.1 ++ fm avC (r.2.2.2.take b.1)) (avC (r.2.2.2.getD b.1 default)) c.1
  rw [List.length_append] at hle
  repeat' first
    | (conv => whnf
       first | refine Need.mk rfl ?_ | refine Ix.strsN rfl ?_ | refine Fork.decY ?_ | refine Round.mk ?_ | refine LitO.own rfl ?_ | refine ACall.mkStrs _ _ (sPut.ret _ _ ?_) (by repeat' first | exact SeesL.nil | refine SeesL.cons ?_ ?_ | exact SeesB.of0 (Sees0.val _) | exact SeesB.of0 (Sees0.str _) | exact SeesB.of0 (Sees0.olds _ _) | exact SeesB.of0 (Sees0.old _) | exact SeesB.of0 (Sees0.oldagg _) | exact SeesB.of0 Sees0.nil | exact Sees0.val _ | exact Sees0.str _ | exact Sees0.olds _ _ | exact Sees0.old _ | exact Sees0.oldagg _ | exact Sees0.nil | exact SeesB.of0 (Sees0.any _) | assumption | exact sees_gv _ _ _ (by assumption) (by first | assumption | exact BoxIn.last _ _ | exact BoxIn.more (BoxIn.last _ _) _) | refine SeesB.agg ?_ | refine Sees0.agg ?_ | exact SeesB.of0 (Sees0.clo SeesL.nil SeesL.nil) | exact Sees0.clo SeesL.nil SeesL.nil | exact SeesB.of0 (Sees0.list rfl) | exact Sees0.list rfl) ?_)
  · omega
  refine ⟨(c.1 + 1, c.2.2.length, c.2.2 ++ [(9, 1, (insAll blt ((fm cvC r.2.2.1 ++ fm avC (r.2.2.2.take b.1)) ++ (avC (r.2.2.2.getD b.1 default)).take (c.1 + 1))).length)]), ⟨by omega, by simp⟩, ?_, by omega⟩
  repeat' first
    | exact trivial | refine wl_ ?_ ?_ ?_ ?_ | refine And.intro ?_ ?_ | with_reducible rfl | exact ble_ | refine AV.int_congr ?_ | refine AV.list_congr ?_ | (apply rfl)
  · show strs _ = strs (insAll blt ((fm cvC r.2.2.1 ++ fm avC (r.2.2.2.take b.1)) ++ (avC (r.2.2.2.getD b.1 default)).take (c.1 + 1)))
    rw [hst, Int.toNat_natCast] <;> rfl
  · rw [wrap64 (by omega) (by omega)]; rfl
  · show c.2.2 ++ [(9, 1, (ins blt ((avC (r.2.2.2.getD b.1 default)).getD c.1 []) false (insAll blt ((fm cvC r.2.2.1 ++ fm avC (r.2.2.2.take b.1)) ++ (avC (r.2.2.2.getD b.1 default)).take c.1))).length)] = c.2.2 ++ [_]
    rw [hst]
end Go.Proofs.YtiloafmpienmhaaGreat
namespace Go.Proofs.YtiloafmpienmhaaGreat
open Abs
theorem allD_no {α : Type} [Inhabited α] {q : α → Bool} {x : List α} {i : Nat} (hi : i < x.length) (h : q (x.getD i default) = false) : x.all q = false := by
  rw [List.all_eq_false]
  exact ⟨_, getD_mem hi, by rw [h]; simp⟩
theorem allD_succ {α : Type} [Inhabited α] {q : α → Bool} {x : List α} {i : Nat} (hi : i < x.length) (h : (x.take i).all q = true) (hc : q (x.getD i default) = true) : (x.take (i + 1)).all q = true := by
  rw [take_succ' default hi, List.all_append, h]; simpa using hc
theorem pallC.ret (q : VCond → Bool) (F : Nat) (l : List VCond) (hq : ∀ x : VCond, tCond.size x ≤ 1048576 → Abs.Ret true Tryz.prog F [.agg (oldL (tCond.q x))] (.val (.bool (q x))) []) (h : tConds.size l ≤ 1048576) :
    pallC.Ret [.list none (rows tCond l), .clo F [] []] (.val (.bool (l.all q))) [] := by
  refine pallC.ir.of rfl ?_
  rw [tConds_sz] at h
  skip
  refine ALoop.mk Nat (fun i => ⟨[(1, .clo F [] []), (7, .list none (rows tCond l)), (8, .val (.int .i64 l.length)), (9, .val (.int .i64 i))], [], []⟩) (fun i => i ≤ l.length ∧ (l.take i).all q = true) (fun i => l.length - i) ⟨0, ⟨Nat.zero_le _, rfl⟩, ?_⟩ (fun i hi => ?_)
  · repeat' first
      | exact trivial | refine wl_ ?_ ?_ ?_ ?_ | refine And.intro ?_ ?_ | with_reducible rfl | exact ble_ | refine AV.int_congr ?_ | refine AV.list_congr ?_ | (apply rfl)
    simp
  by_cases hi' : i < l.length
  rotate_left
  · have := hi.2
    rw [List.take_of_length_le (by omega)] at this
    repeat' first
      | (conv => whnf
         first | refine Need.mk rfl ?_ | refine Fork.decN ?_ | refine LitO.own rfl ?_ | refine FinVal.keep ?_ | refine Final.mk ?_ rfl)
      | refine AV.bool_congr ?_
    exact this.symm
  have hqi := hq (l.getD i default) (by have := cond_le hi'; omega)
  repeat' first
    | (conv => whnf
       first | refine Need.mk rfl ?_ | refine Need.mk ⟨rfl, Nat.le_of_ble_eq_true rfl⟩ ?_ | refine nb_ ?_ | refine Ix.mapN (fun _ => rfl) ?_ | refine Fork.decY ?_ | refine Fork.neg (fun _ => ?_) (fun _ => ?_) | refine Round.mk ?_ | refine LitO.own rfl ?_ | refine FinVal.keep ?_ | refine Final.mk ?_ rfl | refine ACall.scalA _ _ (hqi) rfl ?_)
    | refine AV.bool_congr ?_
  · rename_i h1
    exact (allD_no hi' h1).symm
  · rename_i h1
    refine ⟨i + 1, ⟨by omega, allD_succ hi' hi.2 h1⟩, ?_, by omega⟩
    repeat' first
      | exact trivial | refine wr_ ?_ ?_ ?_ ?_ | refine And.intro ?_ ?_ | with_reducible rfl | exact ble_ | refine AV.int_congr ?_ | refine AV.list_congr ?_ | (apply rfl)
    rw [wrap64 (by omega) (by omega)]; rfl
theorem pallA0.ret (q : VAction → Bool) (F : Nat) (l : List VAction) (hq : ∀ x : VAction, tAction.size x ≤ 1048576 → Abs.Ret true Tryz.prog F [.agg (oldL (tAction.q x))] (.val (.bool (q x))) []) (h : tActions.size l ≤ 1048576) :
    pallA.Ret [.list none (rows tAction l), .clo F [] []] (.val (.bool (l.all q))) [] := by
  refine pallA.ir.of rfl ?_
  rw [tActions_sz] at h
  skip
  refine ALoop.mk Nat (fun i => ⟨[(1, .clo F [] []), (7, .list none (rows tAction l)), (8, .val (.int .i64 l.length)), (9, .val (.int .i64 i))], [], []⟩) (fun i => i ≤ l.length ∧ (l.take i).all q = true) (fun i => l.length - i) ⟨0, ⟨Nat.zero_le _, rfl⟩, ?_⟩ (fun i hi => ?_)
  · repeat' first
      | exact trivial | refine wl_ ?_ ?_ ?_ ?_ | refine And.intro ?_ ?_ | with_reducible rfl | exact ble_ | refine AV.int_congr ?_ | refine AV.list_congr ?_ | (apply rfl)
    simp
  by_cases hi' : i < l.length
  rotate_left
  · have := hi.2
    rw [List.take_of_length_le (by omega)] at this
    repeat' first
      | (conv => whnf
         first | refine Need.mk rfl ?_ | refine Fork.decN ?_ | refine LitO.own rfl ?_ | refine FinVal.keep ?_ | refine Final.mk ?_ rfl)
      | refine AV.bool_congr ?_
    exact this.symm
  have hqi := hq (l.getD i default) (by have := act_le hi'; omega)
  repeat' first
    | (conv => whnf
       first | refine Need.mk rfl ?_ | refine Need.mk ⟨rfl, Nat.le_of_ble_eq_true rfl⟩ ?_ | refine nb_ ?_ | refine Ix.mapN (fun _ => rfl) ?_ | refine Fork.decY ?_ | refine Fork.neg (fun _ => ?_) (fun _ => ?_) | refine Round.mk ?_ | refine LitO.own rfl ?_ | refine FinVal.keep ?_ | refine Final.mk ?_ rfl | refine ACall.scalC _ _ (hqi) rfl ?_)
    | refine AV.bool_congr ?_
  · rename_i h1
    exact (allD_no hi' h1).symm
  · rename_i h1
    refine ⟨i + 1, ⟨by omega, allD_succ hi' hi.2 h1⟩, ?_, by omega⟩
    repeat' first
      | exact trivial | refine wr_ ?_ ?_ ?_ ?_ | refine And.intro ?_ ?_ | with_reducible rfl | exact ble_ | refine AV.int_congr ?_ | refine AV.list_congr ?_ | (apply rfl)
    rw [wrap64 (by omega) (by omega)]; rfl
theorem pallA1.ret (q : VAction → Bool) (F : Nat) (b : List Str) (l : List VAction) (hq : ∀ x : VAction, tAction.size x ≤ 1048576 → Abs.Ret true Tryz.prog F [.agg (oldL (tAction.q x)), .rptr [.list none (strs b)]] (.val (.bool (q x))) []) (h : tActions.size l ≤ 1048576) :
    pallA.Ret [.list none (rows tAction l), .clo F [] [.rptr [.list none (strs b)]]] (.val (.bool (l.all q))) [] := by
  refine pallA.ir.of rfl ?_
  rw [tActions_sz] at h
  skip
  refine ALoop.mk Nat (fun i => ⟨[(1, .clo F [] [.rptr [.list none (strs b)]]), (7, .list none (rows tAction l)), (8, .val (.int .i64 l.length)), (9, .val (.int .i64 i))], [], []⟩) (fun i => i ≤ l.length ∧ (l.take i).all q = true) (fun i => l.length - i) ⟨0, ⟨Nat.zero_le _, rfl⟩, ?_⟩ (fun i hi => ?_)
  · repeat' first
      | exact trivial | refine wl_ ?_ ?_ ?_ ?_ | refine And.intro ?_ ?_ | with_reducible rfl | exact ble_ | refine AV.int_congr ?_ | refine AV.list_congr ?_ | (apply rfl)
    simp
  by_cases hi' : i < l.length
  rotate_left
  · have := hi.2
    rw [List.take_of_length_le (by omega)] at this
    repeat' first
      | (conv => whnf
         first | refine Need.mk rfl ?_ | refine Fork.decN ?_ | refine LitO.own rfl ?_ | refine FinVal.keep ?_ | refine Final.mk ?_ rfl)
      | refine AV.bool_congr ?_
    exact this.symm
  have hqi := hq (l.getD i default) (by have := act_le hi'; omega)
  repeat' first
    | (conv => whnf
       first | refine Need.mk rfl ?_ | refine Need.mk ⟨rfl, Nat.le_of_ble_eq_true rfl⟩ ?_ | refine nb_ ?_ | refine Ix.mapN (fun _ => rfl) ?_ | refine Fork.decY ?_ | refine Fork.neg (fun _ => ?_) (fun _ => ?_) | refine Round.mk ?_ | refine LitO.own rfl ?_ | refine FinVal.keep ?_ | refine Final.mk ?_ rfl | refine ACall.scalC _ _ (hqi) rfl ?_)
    | refine AV.bool_congr ?_
  · rename_i h1
    exact (allD_no hi' h1).symm
  · rename_i h1
    refine ⟨i + 1, ⟨by omega, allD_succ hi' hi.2 h1⟩, ?_, by omega⟩
    repeat' first
      | exact trivial | refine wr_ ?_ ?_ ?_ ?_ | refine And.intro ?_ ?_ | with_reducible rfl | exact ble_ | refine AV.int_congr ?_ | refine AV.list_congr ?_ | (apply rfl)
    rw [wrap64 (by omega) (by omega)]; rfl
theorem pallS.ret (q : Str → Bool) (F : Nat) (cs : List AV) (hcs : ∀ b, SeesL (SeesB b) cs cs) (l : List Str) (hq : ∀ x : Str, Abs.Ret true Tryz.prog F (.str x :: cs) (.val (.bool (q x))) []) (h : l.length ≤ 4194304) :
    pallS.Ret [.list none (strs l), .clo F [] cs] (.val (.bool (l.all q))) [] := by
  refine pallS.ir.of rfl ?_
  skip
  refine ALoop.mk Nat (fun i => ⟨[(1, .clo F [] cs), (7, .list none (strs l)), (8, .val (.int .i64 l.length)), (9, .val (.int .i64 i))], [], []⟩) (fun i => i ≤ l.length ∧ (l.take i).all q = true) (fun i => l.length - i) ⟨0, ⟨Nat.zero_le _, rfl⟩, ?_⟩ (fun i hi => ?_)
  · repeat' first
      | exact trivial | refine wl_ ?_ ?_ ?_ ?_ | refine And.intro ?_ ?_ | with_reducible rfl | exact ble_ | refine AV.int_congr ?_ | refine AV.list_congr ?_ | (apply rfl)
    simp
  by_cases hi' : i < l.length
  rotate_left
  · have := hi.2
    rw [List.take_of_length_le (by omega)] at this
    repeat' first
      | (conv => whnf
         first | refine Need.mk rfl ?_ | refine Fork.decN ?_ | refine LitO.own rfl ?_ | refine FinVal.keep ?_ | refine Final.mk ?_ rfl)
      | refine AV.bool_congr ?_
    exact this.symm
  have hqi := hq (l.getD i [])
  repeat' first
    | (conv => whnf
       first | refine Need.mk rfl ?_ | refine Ix.strsN rfl ?_ | refine Fork.decY ?_ | refine LitO.own rfl ?_)
  conv => whnf
  refine ACall.scal (.str (l.getD i []) :: cs) _ hqi rfl (.cons (SeesB.of0 (Sees0.str _)) (hcs _)) ?_
  repeat' first
    | (conv => whnf
       first | refine Need.mk rfl ?_ | refine Fork.neg (fun _ => ?_) (fun _ => ?_) | refine Round.mk ?_ | refine LitO.own rfl ?_ | refine FinVal.keep ?_ | refine Final.mk ?_ rfl)
    | refine AV.bool_congr ?_
  · rename_i h1
    exact (allQ_no hi' h1).symm
  · rename_i h1
    refine ⟨i + 1, ⟨by omega, allQ_succ hi' hi.2 h1⟩, ?_, by omega⟩
    repeat' first
      | exact trivial | refine wl_ ?_ ?_ ?_ ?_ | refine And.intro ?_ ?_ | with_reducible rfl | exact ble_ | refine AV.int_congr ?_ | refine AV.list_congr ?_ | (apply rfl)
    rw [wrap64 (by omega) (by omega)]; rfl
theorem others_mem {α : Type} [Inhabited α] {l : List α} {i : Nat} {x : α} : x ∈ l.take i ++ l.drop (i + 1) ↔ ∃ k, k < l.length ∧ k ≠ i ∧ l.getD k default = x := by
  rw [List.mem_append, List.mem_take_iff_getElem, List.mem_drop_iff_getElem]
  constructor
  · rintro (⟨k, hk, rfl⟩ | ⟨k, hk, rfl⟩)
    · refine ⟨k, by omega, by omega, ?_⟩
      have : k < l.length := by omega
      simp [List.getD, this]
    · refine ⟨i + 1 + k, by omega, by omega, ?_⟩
      have : i + 1 + k < l.length := by omega
      simp [List.getD, this]
  · rintro ⟨k, hk, hne, rfl⟩
    rcases Nat.lt_or_gt_of_ne hne with h | h
    · exact .inl ⟨k, by omega, by simp [List.getD, hk]⟩
    · refine .inr ⟨k - (i + 1), by omega, ?_⟩
      have e : i + 1 + (k - (i + 1)) = k := by omega
      simp [List.getD, hk, e]
theorem else_cond {l : List VCond} {m : List VAction} {i k : Nat} {v : Str} (hk : k < l.length) (hne : k ≠ i) (h : v ∈ cvC (l.getD k default)) : elseF l m i v = true := by
  refine decide_eq_true (List.mem_append.2 (.inl (fm_mem.2 ⟨_, others_mem.2 ⟨k, hk, hne, rfl⟩, h⟩)))
theorem else_act {l : List VCond} {m : List VAction} {i k : Nat} {v : Str} (hk : k < m.length) (h : v ∈ avC (m.getD k default)) : elseF l m i v = true := by
  refine decide_eq_true (List.mem_append.2 (.inr (fm_mem.2 ⟨_, getD_mem hk, h⟩)))
theorem else_no {l : List VCond} {m : List VAction} {i : Nat} {v : Str} (h1 : ∀ k, k < l.length → k ≠ i → v ∉ cvC (l.getD k default)) (h2 : ∀ k, k < m.length → v ∉ avC (m.getD k default)) : elseF l m i v = false := by
  refine decide_eq_false fun h => ?_
  rcases List.mem_append.1 h with h | h
  · obtain ⟨x, hx, hv⟩ := fm_mem.1 h
    obtain ⟨k, hk, hne, rfl⟩ := others_mem.1 hx
    exact h1 k hk hne hv
  · obtain ⟨x, hx, hv⟩ := fm_mem.1 h
    obtain ⟨k, hk⟩ := List.getElem?_of_mem hx
    have e : m.getD k default = x := by simp [List.getD, hk]
    exact h2 k (getElem?_lt hk) (by rw [e]; exact hv)
theorem sElse.ret (r : VRule) (i : Nat) (v : Str) (h : tRule.size r ≤ 1048576) (hir : i < r.2.2.1.length) : sElse.Ret [.agg (oldL (tRule.q r)), .val (.int .i64 i), .str v] (.val (.bool (elseF r.2.2.1 r.2.2.2 i v))) [] := by
  refine sElse.ir.of rfl ?_
  rw [tRule_sz] at h
  skip
  refine ALoop.mk Nat (fun k => ⟨[(1, .val (.int .i64 i)), (2, .str v), (3, .bptr 0 0), (7, .val (.int .i64 k))], [.cells .var (oldL (tRule.q r))], []⟩) (fun k => k ≤ r.2.2.1.length ∧ ∀ k', k' < k → k' ≠ i → v ∉ cvC (r.2.2.1.getD k' default)) (fun k => r.2.2.1.length - k) ⟨0, ⟨Nat.zero_le _, fun k' h => by omega⟩, ?_⟩ (fun k hk => ?_)
  · repeat' first
      | exact trivial | refine wl_ ?_ ?_ ?_ ?_ | refine And.intro ?_ ?_ | with_reducible rfl | exact ble_ | refine AV.int_congr ?_ | refine AV.str_congr ?_ | (apply rfl)
  by_cases hk' : k < r.2.2.1.length
  · have hc := cond_le hk'
    have hvl := cvC_len (r.2.2.1.getD k default)
    have hvo := sCondVars.own (r.2.2.1.getD k default) (by omega)
    have hok := ok_strT (cvC (r.2.2.1.getD k default))
    rw [show insAll blt (vs (cvF (r.2.2.1.getD k default))) = cvC (r.2.2.1.getD k default) from rfl] at hvo
    repeat' first
      | (conv => whnf
         first | refine Need.mk (fun h => h) ?_ | refine Need.mk rfl ?_ | refine nb_ ?_ | refine Ix.mapN (fun _ => rfl) ?_ | refine Fork.decY ?_ | refine Fork.mk (fun _ => ?_) (fun _ => ?_) | refine Round.mk ?_ | refine LitO.own rfl ?_ | refine FinVal.keep ?_ | refine Final.mk ?_ rfl | refine AGCall.oldA _ _ (fun hg => hvo) ?_ | refine AGCall.mkA _ _ (fun hg => sHasText.ret _ _ ?_) rfl ?_)
      | refine AV.bool_congr ?_
    · omega
    · rename_i h1
      simp only [Bool.and_eq_true, bne_iff_ne, ne_eq, decide_eq_true_eq] at h1
      exact (else_cond hk' (fun e => h1.1 (by rw [e])) h1.2).symm
    · rename_i h1
      refine ⟨k + 1, ⟨by omega, fun k' h2 h3 h4 => ?_⟩, ?_, by omega⟩
      · rcases Nat.lt_or_eq_of_le (Nat.le_of_lt_succ h2) with h5 | h5
        · exact hk.2 k' h5 h3 h4
        · subst h5
          have : ((k' : Int) != (i : Int)) = true := by rw [bne_iff_ne]; omega
          rw [this, decide_eq_true h4] at h1; cases h1
      · repeat' first
          | exact trivial | refine wl_ ?_ ?_ ?_ ?_ | refine And.intro ?_ ?_ | with_reducible rfl | exact ble_ | refine AV.int_congr ?_ | refine AV.str_congr ?_ | (apply rfl)
        rw [wrap64 (by omega) (by omega)]; rfl
  have hall := hk.2
  repeat' first
    | (conv => whnf
       first | refine Need.mk rfl ?_ | refine Fork.decN ?_ | refine LitO.own rfl ?_)
  refine ALoop.mk Nat (fun k => ⟨[(1, .val (.int .i64 i)), (2, .str v), (3, .bptr 0 0), (8, .val (.int .i64 k))], [.cells .var (oldL (tRule.q r))], []⟩) (fun k => k ≤ r.2.2.2.length ∧ ∀ k', k' < k → v ∉ avC (r.2.2.2.getD k' default)) (fun k => r.2.2.2.length - k) ⟨0, ⟨Nat.zero_le _, fun k' h => by omega⟩, ?_⟩ (fun q hq => ?_)
  · repeat' first
      | exact trivial | refine wl_ ?_ ?_ ?_ ?_ | refine And.intro ?_ ?_ | with_reducible rfl | exact ble_ | refine AV.int_congr ?_ | refine AV.str_congr ?_ | (apply rfl)
  by_cases hq' : q < r.2.2.2.length
  · have hc := act_le hq'
    have hp := tAction_pat (r.2.2.2.getD q default)
    have hvl := avC_len (r.2.2.2.getD q default)
    have hvo := sVarsOf.own (r.2.2.2.getD q default).2 (by omega)
    have hok := ok_strT (avC (r.2.2.2.getD q default))
    rw [show insAll blt (vs (r.2.2.2.getD q default).2.2) = avC (r.2.2.2.getD q default) from rfl] at hvo
    repeat' first
      | (conv => whnf
         first | refine Need.mk rfl ?_ | refine nb_ ?_ | refine Ix.mapN (fun _ => rfl) ?_ | refine Fork.decY ?_ | refine Fork.dec (fun _ => ?_) (fun _ => ?_) | refine Round.mk ?_ | refine LitO.own rfl ?_ | refine FinVal.keep ?_ | refine Final.mk ?_ rfl | refine ACall.oldA _ _ (hvo) ?_ | refine ACall.scalA _ _ (sHasText.ret _ _ ?_) rfl ?_)
      | refine AV.bool_congr ?_
    · omega
    · rename_i h1
      exact (else_act hq' h1).symm
    · rename_i h1
      refine ⟨q + 1, ⟨by omega, fun k' h2 h4 => ?_⟩, ?_, by omega⟩
      · rcases Nat.lt_or_eq_of_le (Nat.le_of_lt_succ h2) with h5 | h5
        · exact hq.2 k' h5 h4
        · subst h5
          exact h1 h4
      · repeat' first
          | exact trivial | refine wl_ ?_ ?_ ?_ ?_ | refine And.intro ?_ ?_ | with_reducible rfl | exact ble_ | refine AV.int_congr ?_ | refine AV.str_congr ?_ | (apply rfl)
        rw [wrap64 (by omega) (by omega)]; rfl
  repeat' first
    | (conv => whnf
       first | refine Need.mk rfl ?_ | refine Fork.decN ?_ | refine LitO.own rfl ?_ | refine FinVal.keep ?_ | refine Final.mk ?_ rfl)
    | refine AV.bool_congr ?_
  exact (else_no (fun k' h1 h2 => hall k' (by omega) h2) (fun k' h1 => hq.2 k' (by omega))).symm
theorem okV_no {l : List VCond} {m : List VAction} {i : Nat} {x : VCond} {v : Str} (h : ((isTestF x && !decide (v ∈ bvF l i)) || (x.1 == 2 && !decide (v ∈ bvF l i) && elseF l m i v)) = true) : okV l m i x v = false := by
  unfold okV; revert h
  cases decide (v ∈ bvF l i) <;> cases isTestF x <;> cases (x.1 == 2) <;> cases elseF l m i v <;> simp
theorem okV_yes {l : List VCond} {m : List VAction} {i : Nat} {x : VCond} {v : Str} (h : ((isTestF x && !decide (v ∈ bvF l i)) || (x.1 == 2 && !decide (v ∈ bvF l i) && elseF l m i v)) = false) : okV l m i x v = true := by
  unfold okV; revert h
  cases decide (v ∈ bvF l i) <;> cases isTestF x <;> cases (x.1 == 2) <;> cases elseF l m i v <;> simp
theorem bvF_len (l : List VCond) (n : Nat) : (bvF l n).length ≤ listSize tCond l := Nat.le_trans (insAll_le _) (fm_lenT tCond bvC bvC_len l n)
theorem rvF_len (r : VRule) : (rvF r.2.2.1 r.2.2.2).length ≤ listSize tCond r.2.2.1 + listSize tAction r.2.2.2 := by
  refine Nat.le_trans (insAll_le _) ?_
  rw [List.length_append]
  have h1 := fm_len tCond cvC cvC_len r.2.2.1
  have h2 := fm_len tAction avC avC_len r.2.2.2
  omega
theorem head_iff (r : VRule) : (!nameF r.1 || !(decide (0 ≤ r.2.1) && decide (r.2.1 ≤ 9)) || !(decide (1 ≤ ((oldLL (r.2.2.1.map tCond.q)).length : Int)) && decide (((oldLL (r.2.2.1.map tCond.q)).length : Int) ≤ 4)) || !(decide (1 ≤ ((oldLL (r.2.2.2.map tAction.q)).length : Int)) && decide (((oldLL (r.2.2.2.map tAction.q)).length : Int) ≤ 2))) = false ↔
    nameF r.1 = true ∧ 0 ≤ r.2.1 ∧ r.2.1 ≤ 9 ∧ 1 ≤ r.2.2.1.length ∧ r.2.2.1.length ≤ 4 ∧ 1 ≤ r.2.2.2.length ∧ r.2.2.2.length ≤ 2 := by
  simp only [length_oldLL, List.length_map, Bool.or_eq_false_iff, Bool.not_eq_false', Bool.and_eq_true, decide_eq_true_eq]
  constructor
  · rintro ⟨⟨⟨h1, h2, h3⟩, h4, h5⟩, h6, h7⟩
    exact ⟨h1, h2, h3, by omega, by omega, by omega, by omega⟩
  · rintro ⟨h1, h2, h3, h4, h5, h6, h7⟩
    exact ⟨⟨⟨h1, h2, h3⟩, by omega, by omega⟩, by omega, by omega⟩
set_option maxHeartbeats 4000000 in
theorem sIsRule.ret (r : VRule) (h : tRule.size r ≤ 1048576) : sIsRule.Ret [.agg (oldL (tRule.q r))] (.val (.bool (isRuleF r))) [] := by
  refine sIsRule.ir.of rfl ?_
  have hrs := h
  rw [tRule_sz] at h
  have hbk := ok_strT (bvF r.2.2.1 r.2.2.1.length)
  have hbl := bvF_len r.2.2.1 r.2.2.1.length
  have hbx : sBoundVars.Own [.agg (oldL (tRule.q r)), .val (.int .i64 (oldLL (r.2.2.1.map tCond.q)).length)] (strT (bvF r.2.2.1 r.2.2.1.length)) := by
    rw [length_oldLL, List.length_map]
    have := sBoundVars.own r r.2.2.1.length hrs
    rwa [Int.toNat_natCast] at this
  have hif := head_iff r
  cases hb : (!nameF r.1 || !(decide (0 ≤ r.2.1) && decide (r.2.1 ≤ 9)) || !(decide (1 ≤ ((oldLL (r.2.2.1.map tCond.q)).length : Int)) && decide (((oldLL (r.2.2.1.map tCond.q)).length : Int) ≤ 4)) || !(decide (1 ≤ ((oldLL (r.2.2.2.map tAction.q)).length : Int)) && decide (((oldLL (r.2.2.2.map tAction.q)).length : Int) ≤ 2)))
  rotate_left
  · rw [hb] at hif
    rw [rule_no (fun e => absurd (hif.2 e) (by simp))]
    repeat' first
      | (conv => whnf
         first | refine Need.mk (fun h => h) ?_ | refine Fork.yes (by assumption) ?_ | refine FinVal.keep ?_ | refine Final.mk rfl rfl | refine ACall.scalA _ _ (sIsName.ret _ ?_) rfl ?_ | refine AGCall.mkA _ _ (fun hg => l1In.ret _ _ _) rfl ?_)
    omega
  have h0 := hif.1 hb
  clear hif
  repeat' first
    | (conv => whnf
       first | refine Need.mk (fun h => h) ?_ | refine nb_ ?_ | refine Fork.no (by assumption) ?_ | refine ACall.scalA _ _ (sIsName.ret _ ?_) rfl ?_ | refine AGCall.mkA _ _ (fun hg => l1In.ret _ _ _) rfl ?_ | refine ACall.oldA _ _ (hbx) ?_)
  · omega
  refine ALoop.mk Nat (fun i => ⟨[(1, .bptr 0 0), (3, .list none (strs (bvF r.2.2.1 r.2.2.1.length))), (4, .val (.int .i64 i))], [.cells .var (oldL (tRule.q r))], []⟩) (fun i => i ≤ r.2.2.1.length ∧ ∀ j, j < i → okC r.2.2.1 r.2.2.2 j (r.2.2.1.getD j default) = true) (fun i => r.2.2.1.length - i) ⟨0, ⟨Nat.zero_le _, fun j hj => by omega⟩, ?_⟩ (fun i hi => ?_)
  · repeat' first
      | exact trivial | refine wl_ ?_ ?_ ?_ ?_ | refine And.intro ?_ ?_ | with_reducible rfl | exact ble_ | refine AV.int_congr ?_ | refine AV.list_congr ?_ | (apply rfl)
  by_cases hi' : i < r.2.2.1.length
  · have hc := cond_le hi'
    have hvl := cvC_len (r.2.2.1.getD i default)
    have hvo := sCondVars.own (r.2.2.1.getD i default) (by omega)
    have hok := ok_strT (cvC (r.2.2.1.getD i default))
    rw [show insAll blt (vs (cvF (r.2.2.1.getD i default))) = cvC (r.2.2.1.getD i default) from rfl] at hvo
    have hbi := sBoundVars.own r i hrs
    rw [Int.toNat_natCast] at hbi
    have hbik := ok_strT (bvF r.2.2.1 i)
    have hbil := bvF_len r.2.2.1 i
    have hic := sIsCond.ret (r.2.2.1.getD i default) (by omega)
    have hit := sIsTest.ret (r.2.2.1.getD i default) (by omega)
    repeat' first
      | (conv => whnf
         first | refine Need.mk (fun h => h) ?_ | refine Need.mk rfl ?_ | refine Need.mk ⟨rfl, Nat.le_of_ble_eq_true rfl⟩ ?_ | refine nb_ ?_ | refine Ix.mapN (fun _ => rfl) ?_ | refine Fork.decY ?_ | refine Fork.mk (fun _ => ?_) (fun _ => ?_) | refine LitO.own rfl ?_ | refine FinVal.keep ?_ | refine Final.mk ?_ rfl | refine ACall.scalA _ _ (hic) rfl ?_ | refine ACall.oldA _ _ (hbi) ?_ | refine ACall.oldA _ _ (hvo) ?_)
      | refine AV.bool_congr ?_
    · rename_i h1
      rw [rule_noC hi']
      unfold okC
      revert h1
      have e : ((i : Int) == 0) = (i == 0) := by cases i <;> simp <;> omega
      rw [e, Int.toNat_natCast]
      cases isCondF (r.2.2.1.getD i default) <;> cases (i == 0) <;> simp
      intro h2 h3; exact absurd h3 h2
    rename_i h1
    have hcok : isCondF (r.2.2.1.getD i default) = true ∧ ((i == 0) = true → (r.2.2.1.getD i default).1 = 1) := by
      rw [Int.toNat_natCast] at h1
      have e : ((i : Int) == 0) = (i == 0) := by cases i <;> simp <;> omega
      rw [e] at h1
      revert h1
      cases isCondF (r.2.2.1.getD i default) <;> cases (i == 0) <;> simp
    refine ALoop.mk Nat (fun k => ⟨[(1, .bptr 0 0), (3, .list none (strs (bvF r.2.2.1 r.2.2.1.length))), (4, .val (.int .i64 i)), (5, .bptr 1 0), (6, .list none (strs (bvF r.2.2.1 i))), (7, .list none (strs (cvC (r.2.2.1.getD i default)))), (8, .val (.int .i64 k))], [.cells .var (oldL (tRule.q r)), .cells .var (oldL (tCond.q (r.2.2.1.getD i default)))], []⟩) (fun k => k ≤ (cvC (r.2.2.1.getD i default)).length ∧ ∀ j, j < k → okV r.2.2.1 r.2.2.2 i (r.2.2.1.getD i default) ((cvC (r.2.2.1.getD i default)).getD j []) = true) (fun k => (cvC (r.2.2.1.getD i default)).length - k) ⟨0, ⟨Nat.zero_le _, fun j hj => by omega⟩, ?_⟩ (fun k hk => ?_)
    · repeat' first
        | exact trivial | refine wl_ ?_ ?_ ?_ ?_ | refine And.intro ?_ ?_ | with_reducible rfl | exact ble_ | refine AV.int_congr ?_ | refine AV.list_congr ?_ | (apply rfl)
    by_cases hk' : k < (cvC (r.2.2.1.getD i default)).length
    rotate_left
    · have hov : (cvC (r.2.2.1.getD i default)).all (okV r.2.2.1 r.2.2.2 i (r.2.2.1.getD i default)) = true := List.all_eq_true.2 fun v hv => by
        obtain ⟨j, hj⟩ := List.getElem?_of_mem hv
        have := hk.2 j (by have := getElem?_lt hj; omega)
        have e : (cvC (r.2.2.1.getD i default)).getD j [] = v := by rw [List.getD_eq_getElem?_getD, hj]; rfl
        rwa [e] at this
      repeat' first
        | (conv => whnf
           first | refine Need.mk rfl ?_ | refine Fork.decN ?_ | refine Round.mk ?_ | refine LitO.own rfl ?_)
      refine ⟨i + 1, ⟨by omega, fun j hj => ?_⟩, ?_, by omega⟩
      · rcases Nat.lt_or_eq_of_le (Nat.le_of_lt_succ hj) with h5 | h5
        · exact hi.2 j h5
        · subst h5
          rw [okC, hcok.1, hov]
          have := hcok.2
          cases hz : (j == 0)
          · rfl
          · rw [this hz]; rfl
      · repeat' first
          | exact trivial | refine wr_ ?_ ?_ ?_ ?_ | refine And.intro ?_ ?_ | with_reducible rfl | exact ble_ | refine AV.int_congr ?_ | refine AV.list_congr ?_ | (apply rfl)
        rw [wrap64 (by omega) (by omega)]; rfl
    have hse := sElse.ret r i ((cvC (r.2.2.1.getD i default)).getD k []) hrs hi'
    have hht := sHasText.ret (bvF r.2.2.1 i) ((cvC (r.2.2.1.getD i default)).getD k []) (by omega)
    repeat' first
      | (conv => whnf
         first | refine Need.mk (fun h => h) ?_ | refine Need.mk rfl ?_ | refine nb_ ?_ | refine Ix.strsN rfl ?_ | refine Fork.decY ?_ | refine Fork.mk (fun _ => ?_) (fun _ => ?_) | refine Round.mk ?_ | refine LitO.own rfl ?_ | refine FinVal.keep ?_ | refine Final.mk ?_ rfl | refine AQCall.mkA _ _ (fun hg => hit) rfl ?_ | refine ACall.scalA _ _ (hht) rfl ?_ | refine AQCall.mkA _ _ (fun hg => hse) rfl ?_)
      | refine AV.bool_congr ?_
    · rename_i h2
      have h3 := okV_no h2
      rw [rule_noC hi']
      have : (cvC (r.2.2.1.getD i default)).all (okV r.2.2.1 r.2.2.2 i (r.2.2.1.getD i default)) = false := allQ_no hk' h3
      rw [okC, this, Bool.and_false]
    · rename_i h2
      have h3 := okV_yes h2
      refine ⟨k + 1, ⟨by omega, fun j hj => ?_⟩, ?_, by omega⟩
      · rcases Nat.lt_or_eq_of_le (Nat.le_of_lt_succ hj) with h5 | h5
        · exact hk.2 j h5
        · subst h5; exact h3
      · repeat' first
          | exact trivial | refine wl_ ?_ ?_ ?_ ?_ | refine And.intro ?_ ?_ | with_reducible rfl | exact ble_ | refine AV.int_congr ?_ | refine AV.list_congr ?_ | (apply rfl)
        rw [wrap64 (by omega) (by omega)]; rfl
  have hall := hi.2
  repeat' first
    | (conv => whnf
       first | refine Need.mk rfl ?_ | refine Fork.decN ?_ | refine LitO.own rfl ?_)
  refine ALoop.mk Nat (fun q => ⟨[(1, .bptr 0 0), (3, .list none (strs (bvF r.2.2.1 r.2.2.1.length))), (10, .val (.int .i64 q))], [.cells .var (oldL (tRule.q r))], []⟩) (fun q => q ≤ r.2.2.2.length ∧ ∀ j, j < q → okA (bvF r.2.2.1 r.2.2.1.length) (r.2.2.2.getD j default) = true) (fun q => r.2.2.2.length - q) ⟨0, ⟨Nat.zero_le _, fun j hj => by omega⟩, ?_⟩ (fun q hq => ?_)
  · repeat' first
      | exact trivial | refine wl_ ?_ ?_ ?_ ?_ | refine And.intro ?_ ?_ | with_reducible rfl | exact ble_ | refine AV.int_congr ?_ | refine AV.list_congr ?_ | (apply rfl)
  by_cases hq' : q < r.2.2.2.length
  rotate_left
  · have hrv := sRuleVars.own r hrs
    have hrk := ok_strT (rvF r.2.2.1 r.2.2.2)
    have hy := rule_yes h0 (fun j hj => hall j (by omega)) (fun j hj => hq.2 j (by omega))
    repeat' first
      | (conv => whnf
         first | refine Need.mk rfl ?_ | refine nb_ ?_ | refine Fork.decN ?_ | refine LitO.own rfl ?_ | refine FinVal.keep ?_ | refine Final.mk ?_ rfl | refine ACall.oldA _ _ (hrv) ?_)
      | refine AV.bool_congr ?_
    rw [hy, length_oldLL, List.length_map]
    exact decide_eq_decide.2 (by omega)
  have hc := act_le hq'
  have hp := tAction_pat (r.2.2.2.getD q default)
  have hvl := avC_len (r.2.2.2.getD q default)
  have hvo := sVarsOf.own (r.2.2.2.getD q default).2 (by omega)
  have hok := ok_strT (avC (r.2.2.2.getD q default))
  rw [show insAll blt (vs (r.2.2.2.getD q default).2.2) = avC (r.2.2.2.getD q default) from rfl] at hvo
  have hia := sIsAction.ret (r.2.2.2.getD q default) (by omega)
  repeat' first
    | (conv => whnf
       first | refine Need.mk rfl ?_ | refine nb_ ?_ | refine Ix.mapN (fun _ => rfl) ?_ | refine Fork.decY ?_ | refine Fork.neg (fun _ => ?_) (fun _ => ?_) | refine LitO.own rfl ?_ | refine FinVal.keep ?_ | refine Final.mk ?_ rfl | refine ACall.scalC _ _ (hia) rfl ?_ | refine ACall.oldA _ _ (hvo) ?_)
    | refine AV.bool_congr ?_
  · rename_i h1
    rw [rule_noA hq']
    rw [okA, h1]; rfl
  rename_i hact
  refine ALoop.mk Nat (fun k => ⟨[(1, .bptr 0 0), (3, .list none (strs (bvF r.2.2.1 r.2.2.1.length))), (10, .val (.int .i64 q)), (11, .list none (strs (avC (r.2.2.2.getD q default)))), (12, .val (.int .i64 k))], [.cells .var (oldL (tRule.q r))], []⟩) (fun k => k ≤ (avC (r.2.2.2.getD q default)).length ∧ ∀ j, j < k → (avC (r.2.2.2.getD q default)).getD j [] ∈ bvF r.2.2.1 r.2.2.1.length) (fun k => (avC (r.2.2.2.getD q default)).length - k) ⟨0, ⟨Nat.zero_le _, fun j hj => by omega⟩, ?_⟩ (fun k hk => ?_)
  · repeat' first
      | exact trivial | refine wl_ ?_ ?_ ?_ ?_ | refine And.intro ?_ ?_ | with_reducible rfl | exact ble_ | refine AV.int_congr ?_ | refine AV.list_congr ?_ | (apply rfl)
  by_cases hk' : k < (avC (r.2.2.2.getD q default)).length
  rotate_left
  · have hov : ((avC (r.2.2.2.getD q default)).all fun v => decide (v ∈ bvF r.2.2.1 r.2.2.1.length)) = true := List.all_eq_true.2 fun v hv => by
      obtain ⟨j, hj⟩ := List.getElem?_of_mem hv
      have := hk.2 j (by have := getElem?_lt hj; omega)
      have e : (avC (r.2.2.2.getD q default)).getD j [] = v := by rw [List.getD_eq_getElem?_getD, hj]; rfl
      rw [e] at this
      exact decide_eq_true this
    repeat' first
      | (conv => whnf
         first | refine Need.mk rfl ?_ | refine Fork.decN ?_ | refine Round.mk ?_ | refine LitO.own rfl ?_)
    refine ⟨q + 1, ⟨by omega, fun j hj => ?_⟩, ?_, by omega⟩
    · rcases Nat.lt_or_eq_of_le (Nat.le_of_lt_succ hj) with h5 | h5
      · exact hq.2 j h5
      · subst h5
        rw [okA, hact, hov]; rfl
    · repeat' first
        | exact trivial | refine wl_ ?_ ?_ ?_ ?_ | refine And.intro ?_ ?_ | with_reducible rfl | exact ble_ | refine AV.int_congr ?_ | refine AV.list_congr ?_ | (apply rfl)
      rw [wrap64 (by omega) (by omega)]; rfl
  have hht := sHasText.ret (bvF r.2.2.1 r.2.2.1.length) ((avC (r.2.2.2.getD q default)).getD k []) (by omega)
  repeat' first
    | (conv => whnf
       first | refine Need.mk rfl ?_ | refine Ix.strsN rfl ?_ | refine Fork.decY ?_ | refine Fork.neg (fun _ => ?_) (fun _ => ?_) | refine Round.mk ?_ | refine LitO.own rfl ?_ | refine FinVal.keep ?_ | refine Final.mk ?_ rfl | refine ACall.scalA _ _ (hht) rfl ?_)
    | refine AV.bool_congr ?_
  · rename_i h1
    have h1 : (avC (r.2.2.2.getD q default)).getD k [] ∉ bvF r.2.2.1 r.2.2.1.length := by first | exact h1 | exact of_decide_eq_false h1
    rw [rule_noA hq']
    have : ((avC (r.2.2.2.getD q default)).all fun v => decide (v ∈ bvF r.2.2.1 r.2.2.1.length)) = false := allQ_no hk' (decide_eq_false h1)
    rw [okA, this, Bool.and_false]
  · rename_i h1
    have h1 : (avC (r.2.2.2.getD q default)).getD k [] ∈ bvF r.2.2.1 r.2.2.1.length := by first | exact h1 | exact of_decide_eq_true h1
    refine ⟨k + 1, ⟨by omega, fun j hj => ?_⟩, ?_, by omega⟩
    · rcases Nat.lt_or_eq_of_le (Nat.le_of_lt_succ hj) with h5 | h5
      · exact hk.2 j h5
      · subst h5; exact h1
    · repeat' first
        | exact trivial | refine wl_ ?_ ?_ ?_ ?_ | refine And.intro ?_ ?_ | with_reducible rfl | exact ble_ | refine AV.int_congr ?_ | refine AV.list_congr ?_ | (apply rfl)
      rw [wrap64 (by omega) (by omega)]; rfl
end Go.Proofs.YtiloafmpienmhaaGreat
namespace Go.Proofs.YtiloafmpienmhaaGreat
open Abs Go.RowKit Go.Shelf
theorem slGrowC.ret (n : Nat) (hn : n ≤ 1048576) : slGrowC.Ret [.val (.slice none 0 0), .val (.int .i64 n)] (.list (some 0) []) [(150, 5, 0)] := by
  rw [slGrowC.Ret, Ret_eq]
  refine ⟨by kernel_rfl, fun w F vs hcond hout hargs => ?_⟩
  obtain ⟨v0, v1, rfl⟩ : ∃ v0 v1, vs = #[v0, v1] := by
    have := hargs.1
    match vs, this with
    | ⟨[a, b]⟩, _ => exact ⟨a, b, rfl⟩
  obtain ⟨h0, h1⟩ := Both.cons.1 hargs
  obtain ⟨h1, _⟩ := Both.cons.1 h1
  cases h0
  cases h1
  rcases Nat.eq_zero_or_pos n with rfl | hpos
  · refine (Any8.slices_Grow_room Tryz.growC none 0 0 0 w (by omega) (by omega) (by omega) (by omega)).mono ?_
    rintro e w' ⟨rfl, rfl⟩
    refine ⟨_, F, [none], [], rfl, Bel.refl _ _, fun _ _ => rfl, hout, rfl, fun k b h => ?_, fun k l b h => ?_, .list _ [] none 0 5 0 0 (fun _ _ => undef) (Nat.le_refl _) (fun h => absurd rfl h) (by simp) (fun h => absurd rfl h) (by simp) (by simp) (fun k hk => ?_)⟩
    · cases k <;> simp at h
    · cases k <;> simp at h
    · cases hk
      exact ⟨_, 5, 0, rfl, Nat.le_refl _, fun _ => ⟨rfl, ⟨[], World.ownsRow_nil _ _ _ _⟩, rfl, fun b h => by cases h⟩⟩
  · obtain ⟨el, ti, z, hu, hi, hz, hzs, hps, _, hel, hcz⟩ := goodElem_inv (P := Tryz.prog) (t := 90) (by kernel_rfl)
    have he : el = 150 := hel.symm.trans (by kernel_rfl)
    subst he
    have hsz : ti.size = 5 := hcz.symm.trans (by kernel_rfl)
    have hby : ti.bytes = 80 := by
      have h : bytesOf Tryz.prog 150 = ti.bytes := by unfold bytesOf; rw [hi]
      exact h.symm.trans (by kernel_rfl)
    have hzz : z.cells.size = 5 := hzs.trans hsz
    refine (Any8.slices_Grow_grow Tryz.growC ti z hi hz (by omega) none 0 0 n [] w (by omega) (by omega) (by rw [hby]; omega) (by omega) (by simp) (fun _ => rfl) (fun a h => by cases h)).mono ?_
    rintro e w' ⟨rfl, rfl⟩
    have hge := grownCap_ge w (0 + n) 0 150
    have hle := grownCap_le_maxLen w (0 + n) 0 150 (by unfold maxLen; omega)
    have hG : grownCap w (0 + n) 0 (Tryz.growC_ren.t 25) = grownCap w (0 + n) 0 150 := rfl
    rw [hG]
    generalize grownCap w (0 + n) 0 150 = G at hge hle
    refine ⟨_, F, [some w.heap.size], [], rfl, ((Bel.refl _ w).drew).alloc (Nat.le_refl _) _, fun _ _ => rfl, fun b hb => hout b ?_, rfl, fun k b h => ?_, fun k l b h1 h2 => ?_, .list _ [] (some ⟨w.heap.size, 0, none⟩) G 5 w.heap.size 0 (fun _ _ => undef) (Nat.zero_le _) (fun h => absurd rfl h) (by simp) (fun h => absurd rfl h) (by simp) (by simp) (fun k hk => ?_)⟩
    · have : w.heap.size + 1 ≤ b := by simpa using hb
      omega
    · cases k with
      | zero => simp at h; subst h; exact ⟨Nat.le_refl _, by simp⟩
      | succ k => simp at h
    · cases k <;> cases l <;> simp at h1 h2
      rfl
    · cases hk
      refine ⟨_, 5, 0, rfl, Nat.le_refl _, fun _ => ⟨rfl, ⟨[], rfl, Or.inr ⟨w.heap.size, G, _, rfl, Nat.le_refl _, heap_alloc_new w.drew _, Nat.zero_le _, hle, ?_, by simp⟩⟩, rfl, fun b h => ?_⟩⟩
      · simp [Builtin.zeroCells, hzz]; omega
      · cases h; rw [hout _ (Nat.le_refl _)]; rfl
def sumC (a b : List VCond) (i : Nat) : Nat := if i = 0 then 0 else if i = 1 then a.length else a.length + b.length
def catC (a b : List VCond) (i : Nat) : List VCond := if i = 0 then [] else if i = 1 then a else a ++ b
theorem rows_app {α : Type} (T : Ty α) (a b : List α) : rows T (a ++ b) = rows T a ++ rows T b := by rw [rows, List.map_append, oldLL_append]; rfl
theorem slConcatC2.ret (a b : List VCond) (hab : a.length + b.length ≤ 1048576) : slConcatC.Ret [.list none [[.list none (rows tCond a)], [.list none (rows tCond b)]]] (.list (some 0) (rows tCond (a ++ b))) [(150, 5, (a ++ b).length)] := by
  refine slConcatC.ir.of rfl ?_
  have e1 : IntKind.i64.wrap ((0 : Int) + (rows tCond a).length) = a.length := by rw [length_rows, wrap64 (by omega) (by omega)]; omega
  have e2 : IntKind.i64.wrap ((a.length : Int) + (rows tCond b).length) = ((a.length + b.length : Nat) : Int) := by rw [length_rows, wrap64 (by omega) (by omega)]; omega
  skip
  refine ALoop.mk Nat (fun i => ⟨[(0, .list none [[.list none (rows tCond a)], [.list none (rows tCond b)]]), (3, .val (.int .i64 (sumC a b i))), (9, .list none [[.list none (rows tCond a)], [.list none (rows tCond b)]]), (10, .val (.int .i64 2)), (11, .val (.int .i64 i))], [], []⟩) (fun i => i ≤ 2) (fun i => 2 - i) ⟨0, by omega, ?_⟩ (fun i hi => ?_)
  · repeat' first
      | exact trivial | refine wl_ ?_ ?_ ?_ ?_ | refine And.intro ?_ ?_ | with_reducible rfl | exact ble_ | refine AV.int_congr ?_ | refine AV.list_congr ?_ | (apply rfl)
  have hc : i = 0 ∨ i = 1 ∨ i = 2 := by omega
  rcases hc with rfl | rfl | rfl
  · have hix : (0 : Int) ≤ (0 : Nat) ∧ [[AV.list none (rows tCond a)], [AV.list none (rows tCond b)]][((0 : Nat) : Int).toNat]? = some [AV.list none (rows tCond a)] ∧ 1 = 1 := ⟨by omega, rfl, rfl⟩
    repeat' first
      | (conv => whnf
         first | refine Need.mk rfl ?_ | refine Ix.mk _ (fun _ => hix) ?_ | refine Fork.decYes (by omega) ?_ | refine Fork.dec (fun _ => ?_) (fun _ => ?_) | refine Round.mk ?_ | refine LitO.own rfl ?_)
    · rename_i h
      have h : IntKind.i64.wrap ((0 : Int) + (rows tCond a).length) < 0 := h
      rw [e1] at h; omega
    · refine ⟨1, by omega, ?_, by omega⟩
      repeat' first
        | exact trivial | refine wl_ ?_ ?_ ?_ ?_ | refine And.intro ?_ ?_ | with_reducible rfl | exact ble_ | refine AV.int_congr ?_ | refine AV.list_congr ?_ | (apply rfl)
      exact e1
  · have hix : (0 : Int) ≤ (1 : Nat) ∧ [[AV.list none (rows tCond a)], [AV.list none (rows tCond b)]][((1 : Nat) : Int).toNat]? = some [AV.list none (rows tCond b)] ∧ 1 = 1 := ⟨by omega, rfl, rfl⟩
    repeat' first
      | (conv => whnf
         first | refine Need.mk rfl ?_ | refine Ix.mk _ (fun _ => hix) ?_ | refine Fork.decYes (by omega) ?_ | refine Fork.dec (fun _ => ?_) (fun _ => ?_) | refine Round.mk ?_ | refine LitO.own rfl ?_)
    · rename_i h
      have h : IntKind.i64.wrap ((a.length : Int) + (rows tCond b).length) < 0 := h
      rw [e2] at h; omega
    · refine ⟨2, by omega, ?_, by omega⟩
      repeat' first
        | exact trivial | refine wl_ ?_ ?_ ?_ ?_ | refine And.intro ?_ ?_ | with_reducible rfl | exact ble_ | refine AV.int_congr ?_ | refine AV.list_congr ?_ | (apply rfl)
      exact e2
  have hg : slGrowC.Ret [.val (.slice none 0 0), .val (.int .i64 (sumC a b 2))] (.list (some 0) []) [(150, 5, 0)] := slGrowC.ret (a.length + b.length) (by omega)
  repeat' first
    | (conv => whnf
       first | refine Need.mk rfl ?_ | refine Fork.decNo (by omega) ?_ | refine LitO.own rfl ?_ | refine ACall.mkR _ _ _ (hg) ?_)
  refine ALoop.mk Nat (fun i => ⟨[(0, .list none [[.list none (rows tCond a)], [.list none (rows tCond b)]]), (6, .list (some 0) (rows tCond (catC a b i))), (25, .list none [[.list none (rows tCond a)], [.list none (rows tCond b)]]), (26, .val (.int .i64 2)), (27, .val (.int .i64 i))], [], [(150, 5, (catC a b i).length)]⟩) (fun i => i ≤ 2) (fun i => 2 - i) ⟨0, by omega, ?_⟩ (fun i hi => ?_)
  · repeat' first
      | exact trivial | refine wl_ ?_ ?_ ?_ ?_ | refine And.intro ?_ ?_ | with_reducible rfl | exact ble_ | refine fr1 ?_ | refine AV.int_congr ?_ | refine AV.list_congr ?_ | (apply rfl)
  have hc : i = 0 ∨ i = 1 ∨ i = 2 := by omega
  rcases hc with rfl | rfl | rfl
  · have hix : (0 : Int) ≤ (0 : Nat) ∧ [[AV.list none (rows tCond a)], [AV.list none (rows tCond b)]][((0 : Nat) : Int).toNat]? = some [AV.list none (rows tCond a)] ∧ 1 = 1 := ⟨by omega, rfl, rfl⟩
    repeat' first
      | (conv => whnf
         first | refine Need.mk rfl ?_ | refine Need.mk ?_ ?_ | refine Ix.mk _ (fun _ => hix) ?_ | refine Fork.decYes (by omega) ?_ | refine Round.mk ?_ | refine LitO.own rfl ?_)
    · exact rows_cut tCond a
    · rw [length_rows, length_rows]; simp [catC]; omega
    · refine ⟨1, by omega, ?_, by omega⟩
      repeat' first
        | exact trivial | refine wl_ ?_ ?_ ?_ ?_ | refine And.intro ?_ ?_ | with_reducible rfl | exact ble_ | refine fr1 ?_ | refine AV.int_congr ?_ | refine AV.list_congr ?_ | (apply rfl)
      show (rows tCond []).length + (rows tCond a).length = a.length
      simp
  · have hix : (0 : Int) ≤ (1 : Nat) ∧ [[AV.list none (rows tCond a)], [AV.list none (rows tCond b)]][((1 : Nat) : Int).toNat]? = some [AV.list none (rows tCond b)] ∧ 1 = 1 := ⟨by omega, rfl, rfl⟩
    repeat' first
      | (conv => whnf
         first | refine Need.mk rfl ?_ | refine Need.mk ?_ ?_ | refine Ix.mk _ (fun _ => hix) ?_ | refine Fork.decYes (by omega) ?_ | refine Round.mk ?_ | refine LitO.own rfl ?_)
    · simp
    · exact rows_cut tCond b
    · rw [length_rows, length_rows]; simp [catC]; omega
    · refine ⟨2, by omega, ?_, by omega⟩
      repeat' first
        | exact trivial | refine wl_ ?_ ?_ ?_ ?_ | refine And.intro ?_ ?_ | with_reducible rfl | exact ble_ | refine fr1 ?_ | refine AV.int_congr ?_ | refine AV.list_congr ?_ | (apply rfl)
      · exact (rows_app tCond a b).symm
      · show (rows tCond a).length + (rows tCond b).length = (a ++ b).length
        simp
  · repeat' first
      | (conv => whnf
         first | refine Need.mk rfl ?_ | refine Fork.decNo (by omega) ?_ | refine LitO.own rfl ?_ | refine Final.mk rfl rfl)
theorem Abs.Sees0.list2 (o : Option Nat) (a b : List (List Tr)) : Sees0 (.list o [[.list none (oldLL a)], [.list none (oldLL b)]]) (.list none [[.list none (oldLL a)], [.list none (oldLL b)]]) := Sees0.list (by
  show [[AV.list none (mapTLL noTok (oldLL a))], [AV.list none (mapTLL noTok (oldLL b))]] = _
  rw [mapTLL_old, mapTLL_old])
theorem Abs.ACall.mkL2 {C : Con} {lend : Bool} {f : Nat} {vs : List AV} {b : List ABox} {fr : Fr} {k : AV → List ABox → Fr → Prop} (ys : List AV) (i : Nat) (xs : List (List Tr)) (frs : Fr) (h : C.ret f ys (.list (some i) (oldLL xs)) frs)
    (hk : k (.list (some (i + fr.length)) (oldLL xs)) b (fr ++ frs)) (hv : SeesL Sees0 vs ys := by refine SeesL.cons ?_ SeesL.nil; exact Sees0.list2 _ _ _) : ACall C lend f vs b fr k := .mkL ys i xs frs h hv hk
theorem seesR (b : List Str) : ∀ bx, SeesL (SeesB bx) [AV.rptr [.list none (strs b)]] [.rptr [.list none (strs b)]] := fun _ => .cons (SeesB.of0 (Sees0.rptrL _)) .nil
theorem seesR2 (b c : List Str) : ∀ bx, SeesL (SeesB bx) [AV.rptr [.list none (strs b)], AV.rptr [.list none (strs c)]] [.rptr [.list none (strs b)], .rptr [.list none (strs c)]] := fun _ => .cons (SeesB.of0 (Sees0.rptrL _)) (.cons (SeesB.of0 (Sees0.rptrL _)) .nil)
theorem pamongClo.ret (s : Str) (b : List Str) (h : b.length ≤ 1048576) : pamongClo.Ret [.str s, .rptr [.list none (strs b)]] (.val (.bool (decide (s ∈ b)))) [] := by
  refine pamongClo.ir.of rfl ?_
  repeat' first
    | (conv => whnf
       first | refine FinVal.keep ?_ | refine Final.mk rfl rfl | refine ACall.scalA _ _ (slContains.ret _ _ ?_) rfl ?_)
  exact h
theorem pareAmong.ret (l b : List Str) (h : l.length ≤ 4194304) (hb : b.length ≤ 1048576) : pareAmong.Ret [.list none (strs l), .list none (strs b)] (.val (.bool (l.all fun v => decide (v ∈ b)))) [] := by
  refine pareAmong.ir.of rfl ?_
  have ha := pallS.ret (fun v => decide (v ∈ b)) _ _ (seesR b) l (fun x => pamongClo.ret x b hb) h
  repeat' first
    | (conv => whnf
       first | refine Need.mk ?_ ?_ | refine FinVal.keep ?_ | refine Final.mk rfl rfl | refine ACall.scalC _ _ (ha) rfl ?_)
  exact ⟨rfl, rfl⟩
theorem pmayClo.ret (s : Str) (b c : List Str) (hb : b.length ≤ 1048576) (hc : c.length ≤ 1048576) : pmayClo.Ret [.str s, .rptr [.list none (strs b)], .rptr [.list none (strs c)]] (.val (.bool (decide (s ∈ b) || !decide (s ∈ c)))) [] := by
  refine pmayClo.ir.of rfl ?_
  repeat' first
    | (conv => whnf
       first | refine Need.mk (fun h => h) ?_ | refine FinVal.keep ?_ | refine Final.mk rfl rfl | refine ACall.scalA _ _ (slContains.ret _ _ ?_) rfl ?_ | refine AGCall.mkA _ _ (fun hg => slContains.ret _ _ ?_) rfl ?_)
  · exact hb
  · exact hc
theorem pusesClo.ret (a : VAction) (b : List Str) (h : tAction.size a ≤ 1048576) (hb : b.length ≤ 1048576) : pusesClo.Ret [.agg (oldL (tAction.q a)), .rptr [.list none (strs b)]] (.val (.bool ((avC a).all fun v => decide (v ∈ b)))) [] := by
  refine pusesClo.ir.of rfl ?_
  have hp := tAction_pat a
  have hvl := avC_len a
  have hvo := pVarsOf.own a.2 (by omega)
  have hok := ok_strT (avC a)
  rw [show insAll blt (vs a.2.2) = avC a from rfl] at hvo
  have ha := pareAmong.ret (avC a) b (by omega) hb
  repeat' first
    | (conv => whnf
       first | refine nb_ ?_ | refine FinVal.keep ?_ | refine Final.mk rfl rfl | refine ACall.oldA _ _ (hvo) ?_ | refine ACall.scalC _ _ (ha) rfl ?_)
def mayF (l : List VCond) (m : List VAction) (i : Nat) (x : VCond) : Bool :=
  if x.1 = 1 then true else if x.1 = 2 then (cvC x).all (fun v => decide (v ∈ bvF l i) || !decide (v ∈ rvF (l.take i ++ l.drop (i + 1)) m)) else (cvC x).all (fun v => decide (v ∈ bvF l i))
theorem may_ok {l : List VCond} {m : List VAction} {i : Nat} {x : VCond} (h : isCondF x = true) : mayF l m i x = (cvC x).all (okV l m i x) := by
  unfold mayF
  by_cases h1 : x.1 = 1
  · rw [if_pos h1]
    refine (List.all_eq_true.2 fun v _ => ?_).symm
    have : isTestF x = false := by simp [isTestF, testKind, h1]
    simp [okV, this, h1]
  rw [if_neg h1]
  by_cases h2 : x.1 = 2
  · rw [if_pos h2]
    congr 1
    funext v
    have : isTestF x = false := by simp [isTestF, testKind, h2]
    have e : decide (v ∈ rvF (l.take i ++ l.drop (i + 1)) m) = elseF l m i v := decide_eq_decide.2 mem_insB
    simp [okV, this, h2, e]
  rw [if_neg h2]
  congr 1
  funext v
  have hk : hasKind x.1 = false := by simp [hasKind, h1, h2]
  have : isTestF x = true := by rwa [isCondF, if_neg (by simp [hk])] at h
  simp [okV, this, h2]
end Go.Proofs.YtiloafmpienmhaaGreat
namespace Go.Proofs.YtiloafmpienmhaaGreat
open Abs
set_option maxHeartbeats 40000000 in
theorem pmay1.ret (r : VRule) (i : Nat) (h : tRule.size r ≤ 1048576) (hi : i < r.2.2.1.length) (h1 : (r.2.2.1.getD i default).1 = 1) : pmayStandAt.Ret [.agg (oldL (tRule.q r)), .val (.int .i64 i)] (.val (.bool (mayF r.2.2.1 r.2.2.2 i (r.2.2.1.getD i default)))) [] := by
  refine pmayStandAt.ir.ofS rfl rfl ?_
  have hrs := h
  rw [tRule_sz] at h
  have hc := cond_le hi
  have hvl := cvC_len (r.2.2.1.getD i default)
  have hvo := pCondVars.own (r.2.2.1.getD i default) (by omega)
  have hok := ok_strT (cvC (r.2.2.1.getD i default))
  rw [show insAll blt (vs (cvF (r.2.2.1.getD i default))) = cvC (r.2.2.1.getD i default) from rfl] at hvo
  have hbi := pBoundVars.own r i hrs
  rw [Int.toNat_natCast] at hbi
  have hbik := ok_strT (bvF r.2.2.1 i)
  have hbil := bvF_len r.2.2.1 i
  have hb1 : ((r.2.2.1.getD (i : Int).toNat default).1 == 1) = true := by rw [Int.toNat_natCast, beq_iff_eq]; exact h1
  rw [mayF, if_pos h1]
  repeat' first
    | exact trivial
    | (conv => whnf
       first | refine Need.mk rfl ?_ | refine Need.mk ⟨rfl, Nat.le_of_ble_eq_true rfl⟩ ?_ | refine nb_ ?_ | refine Ix.mapN (fun _ => rfl) ?_ | refine Fork.yes (by assumption) ?_ | refine HAlt.mk ?_ ?_ | refine HJoin.split ?_ | refine LitO.own rfl ?_ | refine FinVal.keep ?_ | refine Final.mk rfl rfl | refine ACall.oldA _ _ (hbi) ?_)
end Go.Proofs.YtiloafmpienmhaaGreat
namespace Go.Proofs.YtiloafmpienmhaaGreat
open Abs
theorem one_out {α : Type} (T : Ty α) (l : List α) (i : Nat) : listSize T (l.take i ++ l.drop (i + 1)) ≤ listSize T l ∧ (l.take i ++ l.drop (i + 1)).length ≤ l.length := by
  refine ⟨?_, by rw [List.length_append, List.length_take, List.length_drop]; omega⟩
  have hd : ∀ (l : List α) (n : Nat), listSize T (l.drop n) ≤ listSize T l := by
    intro l
    induction l with
    | nil => intro n; simp [listSize]
    | cons a l ih =>
      intro n
      cases n with
      | zero => simp
      | succ n => have := ih n; simp only [List.drop_succ_cons, listSize]; omega
  induction l generalizing i with
  | nil => simp [listSize]
  | cons a l ih =>
    cases i with
    | zero => have := hd l 0; simp only [List.take_zero, List.nil_append, List.drop_succ_cons, listSize]; simp only [List.drop_zero] at *; omega
    | succ i => have := ih i; simp only [List.take_succ_cons, List.cons_append, List.drop_succ_cons, listSize]; omega
set_option maxHeartbeats 40000000 in
theorem pmay2.ret (r : VRule) (i : Nat) (h : tRule.size r ≤ 1048576) (hi : i < r.2.2.1.length) (h1 : (r.2.2.1.getD i default).1 ≠ 1) (h2 : (r.2.2.1.getD i default).1 = 2) : pmayStandAt.Ret [.agg (oldL (tRule.q r)), .val (.int .i64 i)] (.val (.bool (mayF r.2.2.1 r.2.2.2 i (r.2.2.1.getD i default)))) [] := by
  refine pmayStandAt.ir.ofS rfl rfl ?_
  have hrs := h
  rw [tRule_sz] at h
  have hc := cond_le hi
  have hvl := cvC_len (r.2.2.1.getD i default)
  have hvo := pCondVars.own (r.2.2.1.getD i default) (by omega)
  have hok := ok_strT (cvC (r.2.2.1.getD i default))
  rw [show insAll blt (vs (cvF (r.2.2.1.getD i default))) = cvC (r.2.2.1.getD i default) from rfl] at hvo
  have hbi := pBoundVars.own r i hrs
  rw [Int.toNat_natCast] at hbi
  have hbik := ok_strT (bvF r.2.2.1 i)
  have hbil := bvF_len r.2.2.1 i
  have hb1 : ((r.2.2.1.getD (i : Int).toNat default).1 == 1) = false := by rw [Int.toNat_natCast, beq_eq_false_iff_ne]; exact h1
  have hb2 : ((r.2.2.1.getD (i : Int).toNat default).1 == 2) = true := by rw [Int.toNat_natCast, beq_iff_eq]; exact h2
  have hw : IntKind.i64.wrap ((i : Int) + 1) = ((i + 1 : Nat) : Int) := by rw [wrap64 (by omega) (by omega)]; rfl
  have hB : (r.2.2.1.take ((oldLL (r.2.2.1.map tCond.q)).length : Int).toNat).drop (IntKind.i64.wrap ((i : Int) + 1)).toNat = r.2.2.1.drop (i + 1) := by
    rw [hw, length_oldLL, List.length_map, Int.toNat_natCast, Int.toNat_natCast, List.take_length]
  have hcat : slConcatC.Ret [.list none [[.list none (rows tCond (r.2.2.1.take i))], [.list none (rows tCond ((r.2.2.1.take ((oldLL (r.2.2.1.map tCond.q)).length : Int).toNat).drop (IntKind.i64.wrap ((i : Int) + 1)).toNat))]]] (.list (some 0) (rows tCond (r.2.2.1.take i ++ r.2.2.1.drop (i + 1)))) [(150, 5, (r.2.2.1.take i ++ r.2.2.1.drop (i + 1)).length)] := by
    rw [hB]
    exact slConcatC2.ret _ _ (by rw [List.length_take, List.length_drop]; omega)
  have hrs' : tRule.size (([] : Str), (0 : Int), r.2.2.1.take i ++ r.2.2.1.drop (i + 1), r.2.2.2) ≤ 1048576 := by
    rw [tRule_sz]
    have := one_out tCond r.2.2.1 i
    simp only [List.length_nil]; omega
  have hrv := pRuleVars.own (([] : Str), (0 : Int), r.2.2.1.take i ++ r.2.2.1.drop (i + 1), r.2.2.2) hrs'
  have hrk := ok_strT (rvF (r.2.2.1.take i ++ r.2.2.1.drop (i + 1)) r.2.2.2)
  have hrl := rvF_len (([] : Str), (0 : Int), r.2.2.1.take i ++ r.2.2.1.drop (i + 1), r.2.2.2)
  rw [tRule_sz] at hrs'
  simp only at hrs' hrl hrv
  have ha := pallS.ret (fun v => decide (v ∈ bvF r.2.2.1 i) || !decide (v ∈ rvF (r.2.2.1.take i ++ r.2.2.1.drop (i + 1)) r.2.2.2)) _ _ (seesR2 _ _) (cvC (r.2.2.1.getD i default)) (fun x => pmayClo.ret x (bvF r.2.2.1 i) (rvF (r.2.2.1.take i ++ r.2.2.1.drop (i + 1)) r.2.2.2) (by omega) (by omega)) (by omega)
  rw [mayF, if_neg h1, if_pos h2]
  have hz1 : true = true → (0 : Int) ≤ ((0 : Nat) : Int) ∧ ((0 : Nat) : Int) ≤ (i : Int) ∧ (i : Int) ≤ (r.2.2.1.length : Int) := fun _ => ⟨by omega, by omega, by omega⟩
  have hz2 : true = true → 0 ≤ IntKind.i64.wrap ((i : Int) + 1) ∧ IntKind.i64.wrap ((i : Int) + 1) ≤ ((oldLL (r.2.2.1.map tCond.q)).length : Int) ∧ ((oldLL (r.2.2.1.map tCond.q)).length : Int) ≤ (r.2.2.1.length : Int) := fun _ => by
    rw [hw, length_oldLL, List.length_map]; omega
  clear hrl hrs' hB hw h hrs hc hvl hbil
  skip
  conv => whnf
  refine HJoin.split ?_
  repeat' first
    | exact trivial
    | (conv => whnf
       first | refine Need.mk rfl ?_ | refine Need.mk ⟨rfl, Nat.le_of_ble_eq_true rfl⟩ ?_ | refine nb_ ?_ | refine Ix.mapN (fun _ => rfl) ?_ | refine Fork.yes (by assumption) ?_ | refine Fork.no (by assumption) ?_ | refine HAlt.mk ?_ ?_ | refine LitO.own rfl ?_ | refine ACall.oldA _ _ (hbi) ?_)
  all_goals
    repeat' first
      | exact trivial
      | (conv => whnf
         first | refine Need.mk rfl ?_ | refine Need.mk ⟨rfl, Nat.le_of_ble_eq_true rfl⟩ ?_ | refine nb_ ?_ | refine Need.mk ?_ ?_ | refine Cut.map (fun _ => rfl) ?_ ?_ | refine HAlt.mk ?_ ?_ | apply HJoin.mk3 | exact HEnd.mk rfl rfl rfl | refine LitO.own rfl ?_ | refine FinVal.keep ?_ | refine Final.mk rfl rfl | refine ACall.oldA _ _ (hvo) ?_ | refine ACall.mkL2 _ _ _ _ (hcat) ?_ | refine ACall.oldA _ _ (hrv) ?_ | refine ACall.scalC _ _ (ha) rfl ?_)
  all_goals first
    | exact hz1
    | exact hz2
    | exact ⟨rfl, rfl⟩
end Go.Proofs.YtiloafmpienmhaaGreat
namespace Go.Proofs.YtiloafmpienmhaaGreat
open Abs
set_option maxHeartbeats 40000000 in
theorem pmay3.ret (r : VRule) (i : Nat) (h : tRule.size r ≤ 1048576) (hi : i < r.2.2.1.length) (h1 : (r.2.2.1.getD i default).1 ≠ 1) (h2 : (r.2.2.1.getD i default).1 ≠ 2) : pmayStandAt.Ret [.agg (oldL (tRule.q r)), .val (.int .i64 i)] (.val (.bool (mayF r.2.2.1 r.2.2.2 i (r.2.2.1.getD i default)))) [] := by
  refine pmayStandAt.ir.ofS rfl rfl ?_
  have hrs := h
  rw [tRule_sz] at h
  have hc := cond_le hi
  have hvl := cvC_len (r.2.2.1.getD i default)
  have hvo := pCondVars.own (r.2.2.1.getD i default) (by omega)
  have hok := ok_strT (cvC (r.2.2.1.getD i default))
  rw [show insAll blt (vs (cvF (r.2.2.1.getD i default))) = cvC (r.2.2.1.getD i default) from rfl] at hvo
  have hbi := pBoundVars.own r i hrs
  rw [Int.toNat_natCast] at hbi
  have hbik := ok_strT (bvF r.2.2.1 i)
  have hbil := bvF_len r.2.2.1 i
  have hb1 : ((r.2.2.1.getD (i : Int).toNat default).1 == 1) = false := by rw [Int.toNat_natCast, beq_eq_false_iff_ne]; exact h1
  have hb2 : ((r.2.2.1.getD (i : Int).toNat default).1 == 2) = false := by rw [Int.toNat_natCast, beq_eq_false_iff_ne]; exact h2
  have ha := pareAmong.ret (cvC (r.2.2.1.getD i default)) (bvF r.2.2.1 i) (by omega) (by omega)
  rw [mayF, if_neg h1, if_neg h2]
  repeat' first
    | exact trivial
    | (conv => whnf
       first | refine Need.mk rfl ?_ | refine Need.mk ⟨rfl, Nat.le_of_ble_eq_true rfl⟩ ?_ | refine nb_ ?_ | refine Ix.mapN (fun _ => rfl) ?_ | refine Fork.no (by assumption) ?_ | refine HAlt.mk ?_ ?_ | refine HJoin.split ?_ | refine LitO.own rfl ?_ | refine FinVal.keep ?_ | refine Final.mk rfl rfl | refine ACall.oldA _ _ (hbi) ?_ | refine ACall.oldA _ _ (hvo) ?_ | refine ACall.scalC _ _ (ha) rfl ?_)
end Go.Proofs.YtiloafmpienmhaaGreat
namespace Go.Proofs.YtiloafmpienmhaaGreat
open Abs
theorem pmayStandAt.ret (r : VRule) (i : Nat) (h : tRule.size r ≤ 1048576) (hi : i < r.2.2.1.length) : pmayStandAt.Ret [.agg (oldL (tRule.q r)), .val (.int .i64 i)] (.val (.bool (mayF r.2.2.1 r.2.2.2 i (r.2.2.1.getD i default)))) [] := by
  by_cases h1 : (r.2.2.1.getD i default).1 = 1
  · exact pmay1.ret r i h hi h1
  by_cases h2 : (r.2.2.1.getD i default).1 = 2
  · exact pmay2.ret r i h hi h1 h2
  exact pmay3.ret r i h hi h1 h2
def condsF (l : List VCond) : Bool := decide (1 ≤ (l.length : Int)) && decide ((l.length : Int) ≤ 4) && ((l.getD 0 default).1 == 1) && l.all isCondF
def actsF (m : List VAction) : Bool := decide (1 ≤ (m.length : Int)) && decide ((m.length : Int) ≤ 2) && m.all isActF
theorem pareConds.ret (l : List VCond) (h : tConds.size l ≤ 1048576) : pareConds.Ret [.list none (rows tCond l)] (.val (.bool (condsF l))) [] := by
  refine pareConds.ir.of rfl ?_
  have ha := pallC.ret isCondF _ l (fun x hx => pIsCond.ret x hx) h
  repeat' first
    | (conv => whnf
       first | refine Need.mk (fun h => h) ?_ | refine Need.mk rfl ?_ | refine Ix.mapN (fun _ => rfl) ?_ | refine LitO.own rfl ?_ | refine FinVal.keep ?_ | refine Final.mk ?_ rfl | refine AGCall.mkA _ _ (fun hg => ha) rfl ?_)
    | refine AV.bool_congr ?_
  rw [length_rows]; rfl
theorem pareActions.ret (m : List VAction) (h : tActions.size m ≤ 1048576) : pareActions.Ret [.list none (rows tAction m)] (.val (.bool (actsF m))) [] := by
  refine pareActions.ir.of rfl ?_
  have ha := pallA0.ret isActF _ m (fun x hx => pIsAction.ret x hx) h
  repeat' first
    | (conv => whnf
       first | refine Need.mk (fun h => h) ?_ | refine Need.mk rfl ?_ | refine LitO.own rfl ?_ | refine FinVal.keep ?_ | refine Final.mk ?_ rfl | refine AGCall.mkA _ _ (fun hg => ha) rfl ?_)
    | refine AV.bool_congr ?_
  rw [length_rows]; rfl
def usesF (l : List VCond) (m : List VAction) : Bool := ((List.range l.length).all fun i => mayF l m i (l.getD i default)) && m.all fun a => (avC a).all fun v => decide (v ∈ bvF l l.length)
theorem pusesOnlyBound.ret (r : VRule) (h : tRule.size r ≤ 1048576) : pusesOnlyBound.Ret [.agg (oldL (tRule.q r))] (.val (.bool (usesF r.2.2.1 r.2.2.2))) [] := by
  refine pusesOnlyBound.ir.ofS rfl rfl ?_
  have hrs := h
  have hz := tRule_size r
  have hta : tActions.size r.2.2.2 ≤ 1048576 := by omega
  rw [tRule_sz] at h
  have hbk := ok_strT (bvF r.2.2.1 r.2.2.1.length)
  have hbl := bvF_len r.2.2.1 r.2.2.1.length
  have hbx : pBoundVars.Own [.agg (oldL (tRule.q r)), .val (.int .i64 (oldLL (r.2.2.1.map tCond.q)).length)] (strT (bvF r.2.2.1 r.2.2.1.length)) := by
    rw [length_oldLL, List.length_map]
    have := pBoundVars.own r r.2.2.1.length hrs
    rwa [Int.toNat_natCast] at this
  have ha := pallA1.ret (fun a => (avC a).all fun v => decide (v ∈ bvF r.2.2.1 r.2.2.1.length)) _ (bvF r.2.2.1 r.2.2.1.length) r.2.2.2 (fun x hx => pusesClo.ret x _ hx (by omega)) hta
  skip
  refine ALoop.mk Nat (fun i => ⟨[(1, .bptr 0 0), (7, .val (.int .i64 r.2.2.1.length)), (8, .val (.int .i64 i))], [.cells .var (oldL (tRule.q r))], []⟩) (fun i => i ≤ r.2.2.1.length ∧ ∀ j, j < i → mayF r.2.2.1 r.2.2.2 j (r.2.2.1.getD j default) = true) (fun i => r.2.2.1.length - i) ⟨0, ⟨Nat.zero_le _, fun j hj => by omega⟩, ?_⟩ (fun i hi => ?_)
  · repeat' first
      | exact trivial | refine wl_ ?_ ?_ ?_ ?_ | refine And.intro ?_ ?_ | with_reducible rfl | exact ble_ | refine AV.int_congr ?_ | (apply rfl)
    simp
  by_cases hi' : i < r.2.2.1.length
  · have hm := pmayStandAt.ret r i hrs hi'
    repeat' first
      | (conv => whnf
         first | refine Need.mk rfl ?_ | refine nb_ ?_ | refine Fork.decY ?_ | refine Fork.neg (fun _ => ?_) (fun _ => ?_) | refine Round.mk ?_ | refine LitO.own rfl ?_ | refine FinVal.keep ?_ | refine Final.mk ?_ rfl | refine ACall.scalC _ _ (hm) rfl ?_)
      | refine AV.bool_congr ?_
    · rename_i h1
      have : ((List.range r.2.2.1.length).all fun i => mayF r.2.2.1 r.2.2.2 i (r.2.2.1.getD i default)) = false := by
        rw [List.all_eq_false]
        exact ⟨i, List.mem_range.2 hi', by rw [h1]; simp⟩
      rw [usesF, this, Bool.false_and]
    · rename_i h1
      refine ⟨i + 1, ⟨by omega, fun j hj => ?_⟩, ?_, by omega⟩
      · rcases Nat.lt_or_eq_of_le (Nat.le_of_lt_succ hj) with h5 | h5
        · exact hi.2 j h5
        · subst h5; exact h1
      · repeat' first
          | exact trivial | refine wl_ ?_ ?_ ?_ ?_ | refine And.intro ?_ ?_ | with_reducible rfl | exact ble_ | refine AV.int_congr ?_ | (apply rfl)
        rw [wrap64 (by omega) (by omega)]; rfl
  have hall : ((List.range r.2.2.1.length).all fun i => mayF r.2.2.1 r.2.2.2 i (r.2.2.1.getD i default)) = true := List.all_eq_true.2 fun j hj => hi.2 j (by have := List.mem_range.1 hj; omega)
  repeat' first
    | (conv => whnf
       first | refine Need.mk rfl ?_ | refine Need.mk ⟨rfl, Nat.le_of_ble_eq_true rfl⟩ ?_ | refine nb_ ?_ | refine Need.mk ?_ ?_ | refine Fork.decN ?_ | refine LitO.own rfl ?_ | refine FinVal.keep ?_ | refine Final.mk ?_ rfl | refine ACall.oldA _ _ (hbx) ?_ | refine ACall.scalC _ _ (ha) rfl ?_)
    | refine AV.bool_congr ?_
  · exact ⟨rfl, rfl⟩
  · rw [usesF, hall, Bool.true_and]
theorem getD_in {α : Type} [Inhabited α] {l : List α} {a : α} (h : a ∈ l) : ∃ i, i < l.length ∧ l.getD i default = a := by
  obtain ⟨i, hi⟩ := List.getElem?_of_mem h
  exact ⟨i, getElem?_lt hi, by rw [List.getD_eq_getElem?_getD, hi]; rfl⟩
theorem rule_prog (r : VRule) : (nameF r.1 && decide (0 ≤ r.2.1) && decide (r.2.1 ≤ 9) && condsF r.2.2.1 && actsF r.2.2.2 && usesF r.2.2.1 r.2.2.2 && decide (((cvsF r.2.2.1).length : Int) ≤ 6)) = isRuleF r := by
  have hl : decide (((cvsF r.2.2.1).length : Int) ≤ 6) = decide ((cvsF r.2.2.1).length ≤ 6) := decide_eq_decide.2 (by omega)
  rw [hl, Bool.eq_iff_iff, isRuleF]
  simp only [Bool.and_eq_true, condsF, actsF, usesF, decide_eq_true_eq]
  constructor
  · rintro ⟨⟨⟨⟨⟨⟨h1, h2⟩, h3⟩, ⟨⟨h4, h5⟩, h6⟩, h7⟩, ⟨h8, h9⟩, h10⟩, h11, h12⟩, h13⟩
    refine ⟨⟨⟨⟨⟨⟨⟨⟨⟨h1, h2⟩, h3⟩, by omega⟩, by omega⟩, by omega⟩, by omega⟩, List.all_eq_true.2 fun i hi => ?_⟩, List.all_eq_true.2 fun a ha => ?_⟩, h13⟩
    · have hi' := List.mem_range.1 hi
      have hc := List.all_eq_true.1 h7 _ (getD_mem hi')
      have hm := List.all_eq_true.1 h11 i hi
      rw [may_ok hc] at hm
      rw [okC, hc, hm]
      cases i with
      | zero => rw [h6]; rfl
      | succ i => rfl
    · rw [okA, List.all_eq_true.1 h10 a ha, List.all_eq_true.1 h12 a ha]; rfl
  · rintro ⟨⟨⟨⟨⟨⟨⟨⟨⟨h1, h2⟩, h3⟩, h4⟩, h5⟩, h8⟩, h9⟩, hC⟩, hA⟩, h13⟩
    have hc : ∀ i, i < r.2.2.1.length → isCondF (r.2.2.1.getD i default) = true ∧ (!(i == 0) || (r.2.2.1.getD i default).1 == 1) = true ∧ (cvC (r.2.2.1.getD i default)).all (okV r.2.2.1 r.2.2.2 i (r.2.2.1.getD i default)) = true := fun i hi => by
      have := List.all_eq_true.1 hC i (List.mem_range.2 hi)
      rw [okC, Bool.and_eq_true, Bool.and_eq_true] at this
      exact ⟨this.1.1, this.1.2, this.2⟩
    refine ⟨⟨⟨⟨⟨⟨h1, h2⟩, h3⟩, ⟨⟨by omega, by omega⟩, ?_⟩, List.all_eq_true.2 fun x hx => ?_⟩, ⟨by omega, by omega⟩, List.all_eq_true.2 fun a ha => ?_⟩, List.all_eq_true.2 fun i hi => ?_, List.all_eq_true.2 fun a ha => ?_⟩, h13⟩
    · have := (hc 0 (by omega)).2.1
      simpa using this
    · obtain ⟨i, hi, rfl⟩ := getD_in hx
      exact (hc i hi).1
    · have := List.all_eq_true.1 hA a ha
      rw [okA, Bool.and_eq_true] at this
      exact this.1
    · have hi' := List.mem_range.1 hi
      rw [may_ok (hc i hi').1]
      exact (hc i hi').2.2
    · have := List.all_eq_true.1 hA a ha
      rw [okA, Bool.and_eq_true] at this
      exact this.2
theorem pIsRule.ret (r : VRule) (h : tRule.size r ≤ 1048576) : pIsRule.Ret [.agg (oldL (tRule.q r))] (.val (.bool (isRuleF r))) [] := by
  refine pIsRule.ir.ofS rfl rfl ?_
  have hrs := h
  have hz := tRule_size r
  rw [tRule_sz] at h
  have hca := pareConds.ret r.2.2.1 (by omega)
  have haa := pareActions.ret r.2.2.2 (by omega)
  have hu := pusesOnlyBound.ret r hrs
  have hv := pvarsOfConds.own r.2.2.1 (by omega)
  have hvk := ok_strT (cvsF r.2.2.1)
  repeat' first
    | (conv => whnf
       first | refine Need.mk (fun h => h) ?_ | refine Need.mk rfl ?_ | refine nb_ ?_ | refine LitO.own rfl ?_ | refine FinVal.keep ?_ | refine Final.mk ?_ rfl | refine ACall.scalA _ _ (pIsName.ret _ ?_) rfl ?_ | refine AGCall.mkA _ _ (fun hg => hca) rfl ?_ | refine AGCall.mkA _ _ (fun hg => haa) rfl ?_ | refine AGCall.scalC _ _ (fun hg => hu) rfl ?_ | refine AGCall.oldA _ _ (fun hg => hv) ?_)
    | refine AV.bool_congr ?_
  · omega
  · rw [length_oldLL, List.length_map]; exact rule_prog r
theorem sAreRules.ret (l : List VRule) (h : tRules.size l ≤ 1048576) : sAreRules.Ret [.list none (rows tRule l)] (.val (.bool (areRF l))) [] := by
  refine sAreRules.ir.ofS rfl rfl ?_
  have hrs := h
  rw [tRules_sz] at h
  skip
  refine ALoop.mk Nat (fun i => ⟨[(0, .list none (rows tRule l)), (3, .val (.int .i64 i))], [], []⟩) (fun i => i ≤ l.length ∧ ∀ j, j < i → (isRuleF (l.getD j default) && findR l (l.getD j default).1 0 == (j : Int)) = true) (fun i => l.length - i) ⟨0, ⟨Nat.zero_le _, fun j hj => by omega⟩, ?_⟩ (fun i hi => ?_)
  · repeat' first
      | exact trivial | refine wl_ ?_ ?_ ?_ ?_ | refine And.intro ?_ ?_ | with_reducible rfl | exact ble_ | refine AV.int_congr ?_ | refine AV.list_congr ?_ | (apply rfl)
  by_cases hi' : i < l.length
  rotate_left
  · have hy := areR_yes (l := l) fun j hj => hi.2 j (by omega)
    repeat' first
      | (conv => whnf
         first | refine Need.mk rfl ?_ | refine Fork.decN ?_ | refine LitO.own rfl ?_ | refine FinVal.keep ?_ | refine Final.mk ?_ rfl)
      | refine AV.bool_congr ?_
    rw [hy]
    exact decide_eq_decide.2 (by rw [length_rows]; omega)
  have hc := rule_le hi'
  have hf := sFindRule.ret l (l.getD i default).1 hrs
  repeat' first
    | (conv => whnf
       first | refine Need.mk (fun h => h) ?_ | refine Need.mk rfl ?_ | refine nb_ ?_ | refine Ix.mapN (fun _ => rfl) ?_ | refine Fork.decY ?_ | refine Fork.mk (fun _ => ?_) (fun _ => ?_) | refine Round.mk ?_ | refine LitO.own rfl ?_ | refine FinVal.keep ?_ | refine Final.mk ?_ rfl | refine ACall.scalC _ _ (sIsRule.ret _ ?_) rfl ?_ | refine AGCall.mkA _ _ (fun hg => hf) rfl ?_)
    | refine AV.bool_congr ?_
  · rw [Int.toNat_natCast]; omega
  · rename_i h1
    have h2 : (isRuleF (l.getD i default) && findR l (l.getD i default).1 0 == (i : Int)) = false := by
      revert h1; rw [Int.toNat_natCast]
      cases isRuleF (l.getD i default) <;> simp
    exact (areR_no hi' h2).symm
  · rename_i h1
    have h2 : (isRuleF (l.getD i default) && findR l (l.getD i default).1 0 == (i : Int)) = true := by
      revert h1; rw [Int.toNat_natCast]
      cases isRuleF (l.getD i default) <;> simp
    refine ⟨i + 1, ⟨by omega, fun j hj => ?_⟩, ?_, by omega⟩
    · rcases Nat.lt_or_eq_of_le (Nat.le_of_lt_succ hj) with h5 | h5
      · exact hi.2 j h5
      · subst h5; exact h2
    · repeat' first
        | exact trivial | refine wl_ ?_ ?_ ?_ ?_ | refine And.intro ?_ ?_ | with_reducible rfl | exact ble_ | refine AV.int_congr ?_ | refine AV.list_congr ?_ | (apply rfl)
      rw [wrap64 (by omega) (by omega)]; rfl
theorem pAreRules.ret (l : List VRule) (h : tRules.size l ≤ 1048576) : pAreRules.Ret [.list none (rows tRule l)] (.val (.bool (areRF l))) [] := by
  refine pAreRules.ir.ofS rfl rfl ?_
  have hrs := h
  rw [tRules_sz] at h
  by_cases h6 : l.length ≤ 6
  rotate_left
  · have : areRF l = false := by rw [areRF, decide_eq_false h6, Bool.false_and]
    rw [this]
    repeat' first
      | (conv => whnf
         first | refine Need.mk rfl ?_ | refine Fork.decY ?_ | refine LitO.own rfl ?_ | refine FinVal.keep ?_ | refine Final.mk rfl rfl)
  repeat' first
    | (conv => whnf
       first | refine Need.mk rfl ?_ | refine Fork.decN ?_ | refine LitO.own rfl ?_)
  refine ALoop.mk Nat (fun i => ⟨[(0, .list none (rows tRule l)), (8, .list none (rows tRule l)), (9, .val (.int .i64 l.length)), (10, .val (.int .i64 i))], [], []⟩) (fun i => i ≤ l.length ∧ ∀ j, j < i → (isRuleF (l.getD j default) && findR l (l.getD j default).1 0 == (j : Int)) = true) (fun i => l.length - i) ⟨0, ⟨Nat.zero_le _, fun j hj => by omega⟩, ?_⟩ (fun i hi => ?_)
  · repeat' first
      | exact trivial | refine wl_ ?_ ?_ ?_ ?_ | refine And.intro ?_ ?_ | with_reducible rfl | exact ble_ | refine AV.int_congr ?_ | refine AV.list_congr ?_ | (apply rfl)
    simp
  by_cases hi' : i < l.length
  rotate_left
  · have hy := areR_yes (l := l) fun j hj => hi.2 j (by omega)
    repeat' first
      | (conv => whnf
         first | refine Need.mk rfl ?_ | refine Fork.decN ?_ | refine LitO.own rfl ?_ | refine FinVal.keep ?_ | refine Final.mk ?_ rfl)
      | refine AV.bool_congr ?_
    rw [hy, decide_eq_true h6]
  have hc := rule_le hi'
  have hf := pFindRule.ret l (l.getD i default).1 hrs
  have hir := pIsRule.ret (l.getD i default) (by omega)
  repeat' first
    | (conv => whnf
       first | refine Need.mk (fun h => h) ?_ | refine Need.mk rfl ?_ | refine Need.mk ⟨rfl, Nat.le_of_ble_eq_true rfl⟩ ?_ | refine nb_ ?_ | refine Ix.mapN (fun _ => rfl) ?_ | refine Fork.decY ?_ | refine Fork.mk (fun _ => ?_) (fun _ => ?_) | refine Round.mk ?_ | refine LitO.own rfl ?_ | refine FinVal.keep ?_ | refine Final.mk ?_ rfl | refine ACall.scalA _ _ (hir) rfl ?_ | refine AGCall.mkA _ _ (fun hg => hf) rfl ?_)
    | refine AV.bool_congr ?_
  · rename_i h1
    have h2 : (isRuleF (l.getD i default) && findR l (l.getD i default).1 0 == (i : Int)) = false := by
      revert h1
      cases isRuleF (l.getD i default) <;> simp
    exact (areR_no hi' h2).symm
  · rename_i h1
    have h2 : (isRuleF (l.getD i default) && findR l (l.getD i default).1 0 == (i : Int)) = true := by
      revert h1
      cases isRuleF (l.getD i default) <;> simp
    refine ⟨i + 1, ⟨by omega, fun j hj => ?_⟩, ?_, by omega⟩
    · rcases Nat.lt_or_eq_of_le (Nat.le_of_lt_succ hj) with h5 | h5
      · exact hi.2 j h5
      · subst h5; exact h2
    · repeat' first
        | exact trivial | refine wr_ ?_ ?_ ?_ ?_ | refine And.intro ?_ ?_ | with_reducible rfl | exact ble_ | refine AV.int_congr ?_ | refine AV.list_congr ?_ | (apply rfl)
      rw [wrap64 (by omega) (by omega)]; rfl
end Go.Proofs.YtiloafmpienmhaaGreat
namespace Go.Proofs.YtiloafmpienmhaaGreat
open Abs
abbrev VStamp := Fct × Int
instance : DecidableEq VStamp := instDecidableEqProd
def tStamp : Ty VStamp := Ty.pair tFct Ty.int
theorem tStamp_size (a : VStamp) : tStamp.size a = tFct.size a.1 + 0 := rfl
def tStamps : Ty (List VStamp) := Ty.list 98 tStamp
theorem tStamps_sz (l : List VStamp) : tStamps.size l = l.length + listSize tStamp l := rfl
theorem tStamp_get {l : List VStamp} {i : Nat} (hi : i < l.length) : l[i]? = some (l.getD i default) := by simp [List.getD, hi]
theorem tStamp_le {l : List VStamp} {i : Nat} (hi : i < l.length) : tStamp.size (l.getD i default) ≤ listSize tStamp l := listSize_mem tStamp (List.mem_of_getElem? (tStamp_get hi))
theorem Abs.ACall.mk_Stamp {C : Con} {lend : Bool} {f : Nat} {vs : List AV} {b : List ABox} {fr : Fr} {k : AV → List ABox → Fr → Prop} (ys : List AV) (a : VStamp) (h : C.ret f ys (.agg (tStamp.tk a 0)) (tStamp.fr a)) (hv : SeesL Sees0 vs ys)
    (hk : k (.agg (tStamp.tk a fr.length)) b (fr ++ tStamp.fr a)) : ACall C lend f vs b fr k := ACall.mkA tStamp ys a h hv hk
theorem Abs.ACall.mk_StampS {C : Con} {lend : Bool} {f : Nat} {vs : List AV} {b : List ABox} {fr : Fr} {k : AV → List ABox → Fr → Prop} (ys : List AV) (l : List VStamp) (h : C.ret f ys (.list (some (0 + (frs tStamp l).length)) (tks tStamp l 0)) (tStamps.fr l)) (hv : SeesL Sees0 vs ys)
    (hk : k (.list (some (fr.length + (frs tStamp l).length)) (tks tStamp l fr.length)) b (fr ++ tStamps.fr l)) : ACall C lend f vs b fr k :=
  ACall.mkV tStamps ys l (fun n => .list (some (n + (frs tStamp l).length)) (tks tStamp l n)) (fun _ => rfl) h hv hk
theorem toStamp.ret (a : VStamp) (h : tStamp.size a ≤ 1048576) : toStamp.Ret [.agg (oldL (tStamp.q a))] (.agg (tStamp.tk a 0)) (tStamp.fr a) := by
  refine toStamp.ir.of rfl ?_
  rw [tStamp_size] at h
  repeat' first
    | (conv => whnf
       first | refine Need.mk ⟨rfl, Nat.le_of_ble_eq_true rfl⟩ ?_ | refine nb_ ?_ | refine FinAgg.keep ?_ | refine Final.mk rfl rfl | refine ACall.mk_Fact _ _ (toFact.ret _ ?_) (by repeat' first | exact SeesL.nil | refine SeesL.cons ?_ ?_ | exact SeesB.of0 (Sees0.val _) | exact SeesB.of0 (Sees0.str _) | exact SeesB.of0 (Sees0.olds _ _) | exact SeesB.of0 (Sees0.old _) | exact SeesB.of0 (Sees0.oldagg _) | exact SeesB.of0 Sees0.nil | exact Sees0.val _ | exact Sees0.str _ | exact Sees0.olds _ _ | exact Sees0.old _ | exact Sees0.oldagg _ | exact Sees0.nil | exact SeesB.of0 (Sees0.any _) | assumption | exact sees_gv _ _ _ (by assumption) (by first | assumption | exact BoxIn.last _ _ | exact BoxIn.more (BoxIn.last _ _) _) | refine SeesB.agg ?_ | refine Sees0.agg ?_ | exact SeesB.of0 (Sees0.clo SeesL.nil SeesL.nil) | exact Sees0.clo SeesL.nil SeesL.nil | exact SeesB.of0 (Sees0.list rfl) | exact Sees0.list rfl) ?_)
  all_goals first
    | omega
    | (refine congrArg AV.agg ?_
       repeat' first
         | refine cons_congr ?_ ?_
         | refine tok_congr ?_ ?_
         | refine congrArg (tks _ _) ?_
         | rfl
       all_goals (simp [Ty.pair, Ty.str, Ty.int, Ty.bool, Nat.add_assoc]; done))
    | (simp [tStamp, Ty.pair, Ty.str, Ty.int, Ty.bool, List.append_assoc, Nat.add_assoc]; done)
theorem szStamp.ret (f : VStamp) (a : Int) (h0 : 0 ≤ a) (ha : a ≤ 1048576) (hb : tStamp.bd f) :
    szStamp.Ret [.agg (oldL (tStamp.q f)), .val (.int .i64 a)] (.val (.int .i64 (left a (tStamp.size f)))) [] := by
  refine szStamp.ir.of rfl ?_
  have hz := tStamp_size f
  obtain ⟨hb0, hb1⟩ := hb
  by_cases c1 : a < (tFct.size f.1 : Int)
  · have e0 : left a (tFct.size f.1) = -1 := by rw [left, if_pos (by omega)]
    repeat' first
      | (conv => whnf
         first | refine Need.mk rfl ?_ | refine nb_ ?_ | refine Fork.decYes (by omega) ?_ | refine LitO.own rfl ?_ | refine FinVal.keep ?_ | refine Final.mk ?_ rfl | refine ACall.scalA _ _ (szFact.ret _ _ ?_ ?_ ?_) rfl ?_)
      | refine AV.int_congr ?_
    all_goals first
      | assumption
      | omega
      | exact left_eq (by omega)
  have e0 : left a (tFct.size f.1) = a - (tFct.size f.1 : Int) := by rw [left, if_neg (by omega)]
  repeat' first
    | (conv => whnf
       first | refine Need.mk rfl ?_ | refine nb_ ?_ | refine Fork.decNo (by omega) ?_ | refine LitO.own rfl ?_ | refine FinVal.keep ?_ | refine Final.mk rfl rfl | refine ACall.scalA _ _ (szFact.ret _ _ ?_ ?_ ?_) rfl ?_)
  all_goals first
    | assumption
    | omega
    | exact left_eq (by omega)
theorem eqStamp.big (f g : VStamp) (h : tStamp.size f ≤ 1099511627775) : eqStamp.Ret [.agg (oldL (tStamp.q f)), .agg (oldL (tStamp.q g))] (.val (.bool (decide (f = g)))) [] := by
  refine eqStamp.ir.of rfl ?_
  have hz := tStamp_size f
  repeat' first
    | (conv => whnf
       first | refine Need.mk rfl ?_ | refine nb_ ?_ | refine Fork.bne (fun _ => ?_) (fun _ => ?_) | refine Fork.neg (fun _ => ?_) (fun _ => ?_) | refine LitO.own rfl ?_ | refine FinVal.keep ?_ | refine Final.mk ?_ rfl | refine ACall.scalA _ _ (eqFact.big _ _ ?_) rfl ?_)
    | refine AV.bool_congr ?_
  all_goals first
    | omega
    | (simp only [tStrs_size, tInts_size] at *; omega)
    | (obtain ⟨⟨x00, x01⟩, x1⟩ := f; obtain ⟨⟨y00, y01⟩, y1⟩ := g; simp_all)
theorem toStampS.ret (l : List VStamp) (h : tStamps.size l ≤ 1048576) : toStampS.Ret [.list none (rows tStamp l)] (.list (some (0 + (frs tStamp l).length)) (tks tStamp l 0)) (tStamps.fr l) := by
  refine toStampS.ir.of rfl ?_
  rw [tStamps_sz] at h
  repeat' first
    | (conv => whnf
       first | refine Need.fin ?_)
  refine ALoop.mk Nat (fun i => ⟨[(0, .list none (rows tStamp l)), (3, .bsl 0 l.length), (4, .val (.int .i64 i))], [.cells (.row 98 3) (part [.str [], .val (.slice none 0 0), .val (.int .i64 0)] (tks tStamp l 0) i)], frs tStamp (l.take i)⟩) (fun i => i ≤ l.length) (fun i => l.length - i) ⟨0, Nat.zero_le _, ?_⟩ (fun i hi => ?_)
  · repeat' first
      | exact trivial | refine wl_ ?_ ?_ ?_ ?_ | refine And.intro ?_ ?_ | with_reducible rfl | exact ble_ | refine AV.int_congr ?_ | refine AV.list_congr ?_ | refine AV.bsl_congr ?_ ?_ | (apply rfl)
    · simp
    · simp only [List.nil_append, List.length_cons, List.length_nil, List.take_succ_cons, List.take_zero]
      rw [part_made (xs := tks tStamp l 0) (sz := 3) rfl (by decide) (by simp [length_tks])]; rfl
  repeat' first
    | (conv => whnf
       first | refine Need.mk rfl ?_ | refine nb_ ?_ | refine Need.fin ?_ | refine Need.mk ?_ ?_ | refine Ix.mapF (fun _ => rfl) ?_ | refine Fork.dec (fun _ => ?_) (fun _ => ?_) | refine Round.mk ?_ | refine LitO.own rfl ?_ | refine ACall.mk_Stamp _ _ (toStamp.ret _ ?_) (by repeat' first | exact SeesL.nil | refine SeesL.cons ?_ ?_ | exact SeesB.of0 (Sees0.val _) | exact SeesB.of0 (Sees0.str _) | exact SeesB.of0 (Sees0.olds _ _) | exact SeesB.of0 (Sees0.old _) | exact SeesB.of0 (Sees0.oldagg _) | exact SeesB.of0 Sees0.nil | exact Sees0.val _ | exact Sees0.str _ | exact Sees0.olds _ _ | exact Sees0.old _ | exact Sees0.oldagg _ | exact Sees0.nil | exact SeesB.of0 (Sees0.any _) | assumption | exact sees_gv _ _ _ (by assumption) (by first | assumption | exact BoxIn.last _ _ | exact BoxIn.more (BoxIn.last _ _) _) | refine SeesB.agg ?_ | refine Sees0.agg ?_ | exact SeesB.of0 (Sees0.clo SeesL.nil SeesL.nil) | exact Sees0.clo SeesL.nil SeesL.nil | exact SeesB.of0 (Sees0.list rfl) | exact Sees0.list rfl) ?_)
  · rename_i h1
    rw [length_rows] at h1
    have := listSize_mem tStamp (List.mem_of_getElem? (tStamp_get (l := l) (i := i) (by omega)))
    rw [Int.toNat_natCast]; omega
  · rename_i h1
    rw [length_rows] at h1
    rw [part_len (sz := 3) rfl (tks_sz tStamp l 0) (by rw [length_tks]; exact hi), Int.toNat_natCast, length_tks]
    exact ⟨rfl, by omega⟩
  · rename_i h1
    rw [length_rows] at h1
    refine ⟨i + 1, by omega, ?_, by omega⟩
    repeat' first
      | exact trivial | refine wl_ ?_ ?_ ?_ ?_ | refine And.intro ?_ ?_ | with_reducible rfl | exact ble_ | refine AV.int_congr ?_ | refine AV.list_congr ?_ | refine AV.bsl_congr ?_ ?_
    · rw [wrap64 (by omega) (by omega)]; rfl
    · have := part_set (z := [.str [], .val (.slice none 0 0), .val (.int .i64 0)]) (sz := 3) rfl (tks_sz tStamp l 0) (tks_get tStamp 0 (tStamp_get (l := l) (i := i) (by omega)))
      rw [Nat.zero_add] at this
      simp only [List.set_cons_zero, List.take_succ_cons, List.take_zero, List.length_cons, List.length_nil, Int.toNat_natCast, this]
    · show frs tStamp (l.take i) ++ tStamp.fr (l.getD (i : Int).toNat default) = frs tStamp (l.take (i + 1))
      rw [Int.toNat_natCast, take_succ' default (by omega), frs_append]; simp [frs]
  · rename_i h1
    rw [length_rows] at h1
    conv => whnf
    have : i = l.length := by omega
    subst this
    have hall := part_all [.str [], .val (.slice none 0 0), .val (.int .i64 0)] (tks tStamp l 0)
    rw [length_tks] at hall
    refine FreezeD.flat (Freeze.mk (tks tStamp l 0) _ 98 3 rfl hall (length_tks _ _ _) (tks_sz tStamp l 0) (fun c hc => ?_) ?_)
    · rw [hall] at hc; exact tks_nr tStamp l 0 c hc
    · refine Final.mk ?_ ?_
      · rw [List.take_length, Nat.zero_add]
      · rw [List.take_length]; rfl
theorem szStampS.ret (l : List VStamp) (a : Int) (h0 : 0 ≤ a) (ha : a ≤ 1048576) (hb : tStamps.bd l) :
    szStampS.Ret [.list none (rows tStamp l), .val (.int .i64 a)] (.val (.int .i64 (left a (tStamps.size l)))) [] := by
  refine szStampS.ir.of rfl ?_
  obtain ⟨hl, hb⟩ := hb
  have hw : IntKind.i64.wrap (a - ((rows tStamp l).length : Int)) = a - l.length := by rw [length_rows]; exact wrap64 (by omega) (by omega)
  have hz := tStamps_sz l
  repeat' first
    | (conv => whnf
       first | refine Need.mk rfl ?_ | refine Fork.dec (fun _ => ?_) (fun _ => ?_) | refine LitO.own rfl ?_ | refine FinVal.keep ?_ | refine Final.mk ?_ rfl)
    | refine AV.int_congr ?_
  · rename_i h
    rw [hw] at h
    rw [left, if_pos (by omega)]
  rename_i h
  rw [hw] at h
  skip
  refine ALoop.mk Nat (fun i => ⟨[(0, .list none (rows tStamp l)), (1, .val (.int .i64 (a - l.length - listSize tStamp (l.take i)))), (5, .val (.int .i64 i))], [], []⟩) (fun i => i ≤ l.length ∧ (0 : Int) ≤ a - l.length - listSize tStamp (l.take i)) (fun i => l.length - i) ⟨0, ⟨Nat.zero_le _, by simp [listSize]; omega⟩, ?_⟩ (fun i hi => ?_)
  · repeat' first
      | exact trivial | refine wl_ ?_ ?_ ?_ ?_ | refine And.intro ?_ ?_ | with_reducible rfl | exact ble_ | refine AV.int_congr ?_ | refine AV.list_congr ?_ | (apply rfl)
    rw [hw]; simp [listSize]
  obtain ⟨hp1, hp2⟩ := hi
  have hle := listSize_take_le tStamp l (i + 1)
  have hbi : i < l.length → tStamp.bd (l.getD i default) := fun h => hb _ (List.mem_of_getElem? (tStamp_get h))
  have hsz : i < l.length → listSize tStamp (l.take (i + 1)) = listSize tStamp (l.take i) + tStamp.size (l.getD i default) := fun h => listSize_take_succ tStamp (tStamp_get h)
  repeat' first
    | (conv => whnf
       first | refine Need.mk rfl ?_ | refine nb_ ?_ | refine Ix.mapF (fun _ => rfl) ?_ | refine Fork.dec (fun _ => ?_) (fun _ => ?_) | refine Round.mk ?_ | refine LitO.own rfl ?_ | refine FinVal.keep ?_ | refine Final.mk ?_ rfl | refine ACall.scalA _ _ (szStamp.ret _ _ ?_ ?_ ?_) rfl ?_)
    | refine AV.int_congr ?_
  · exact hp2
  · omega
  · rename_i h1
    rw [length_rows] at h1
    rw [Int.toNat_natCast]; exact hbi (by omega)
  · rename_i h1 h2
    rw [length_rows] at h1
    rw [Int.toNat_natCast] at h2
    have := hsz (by omega)
    unfold left at h2 ⊢
    split at h2
    · rw [if_pos (by omega)]
    · omega
  · rename_i h1 h2
    rw [length_rows] at h1
    rw [Int.toNat_natCast] at h2
    have := hsz (by omega)
    have e : left (a - ↑l.length - ↑(listSize tStamp (l.take i))) (tStamp.size (l.getD i default)) = a - ↑l.length - ↑(listSize tStamp (l.take (i + 1))) := by
      unfold left at h2 ⊢
      split at h2
      · omega
      · rw [if_neg ‹_›]; omega
    refine ⟨i + 1, ⟨by omega, ?_⟩, ?_, by omega⟩
    · rw [← e]; omega
    · repeat' first
        | exact trivial | refine wl_ ?_ ?_ ?_ ?_ | refine And.intro ?_ ?_ | with_reducible rfl | exact ble_ | refine AV.int_congr ?_ | refine AV.list_congr ?_ | (apply rfl)
      · rw [Int.toNat_natCast]; exact e
      · rw [wrap64 (by omega) (by omega)]; rfl
  · rename_i h1
    rw [length_rows] at h1
    rw [List.take_of_length_le (by omega)] at hp2 ⊢
    rw [left, if_neg (by omega)]; omega
theorem eqStampS.big (l m : List VStamp) (h : tStamps.size l ≤ 1099511627775) : eqStampS.Ret [.list none (rows tStamp l), .list none (rows tStamp m)] (.val (.bool (decide (l = m)))) [] := by
  refine eqStampS.ir.of rfl ?_
  rw [tStamps_sz] at h
  repeat' first
    | (conv => whnf
       first | refine Need.mk rfl ?_ | refine Fork.bne (fun _ => ?_) (fun _ => ?_) | refine LitO.own rfl ?_ | refine FinVal.keep ?_ | refine Final.mk ?_ rfl)
    | refine AV.bool_congr ?_
  · rename_i h
    rw [length_rows, length_rows] at h
    have h3 : ¬ l = m := fun e => h (by rw [e])
    simp [h3]
  rename_i h
  rw [length_rows, length_rows] at h
  have h : l.length = m.length := by omega
  skip
  refine ALoop.mk Nat (fun i => ⟨[(0, .list none (rows tStamp l)), (1, .list none (rows tStamp m)), (5, .val (.int .i64 i))], [], []⟩) (fun i => i ≤ l.length ∧ l.take i = m.take i) (fun i => l.length - i) ⟨0, ⟨Nat.zero_le _, rfl⟩, ?_⟩ (fun i hi => ?_)
  · repeat' first
      | exact trivial | refine wl_ ?_ ?_ ?_ ?_ | refine And.intro ?_ ?_ | with_reducible rfl | exact ble_ | refine AV.int_congr ?_ | refine AV.list_congr ?_ | (apply rfl)
  repeat' first
    | (conv => whnf
       first | refine Need.mk rfl ?_ | refine nb_ ?_ | refine Ix.mapF (fun _ => rfl) ?_ | refine Fork.dec (fun _ => ?_) (fun _ => ?_) | refine Fork.neg (fun _ => ?_) (fun _ => ?_) | refine Round.mk ?_ | refine LitO.own rfl ?_ | refine FinVal.keep ?_ | refine Final.mk ?_ rfl | refine AQCall.mkA _ _ (fun hg => eqStamp.big _ _ ?_) rfl ?_)
    | refine AV.bool_congr ?_
  · rename_i h1
    rw [length_rows] at h1
    have := listSize_mem tStamp (List.mem_of_getElem? (tStamp_get (l := l) (i := i) (by omega)))
    rw [Int.toNat_natCast]; omega
  · rename_i h1 h2
    have h3 : ¬ l = m := fun e => of_decide_eq_false h2 (by rw [e])
    simp [h3]
  · rename_i h1 h2
    rw [length_rows] at h1
    rw [Int.toNat_natCast] at h2
    refine ⟨i + 1, ⟨by omega, ?_⟩, ?_, by omega⟩
    · rw [take_succ' default (by omega), take_succ' (l := m) default (by omega), hi.2, of_decide_eq_true h2]
    · repeat' first
        | exact trivial | refine wl_ ?_ ?_ ?_ ?_ | refine And.intro ?_ ?_ | with_reducible rfl | exact ble_ | refine AV.int_congr ?_ | refine AV.list_congr ?_ | (apply rfl)
      rw [wrap64 (by omega) (by omega)]; rfl
  · rename_i h1
    rw [length_rows] at h1
    have h2 := hi.2
    rw [List.take_of_length_le (by omega), List.take_of_length_le (by omega)] at h2
    simp [h2]
end Go.Proofs.YtiloafmpienmhaaGreat
namespace Go.Proofs.YtiloafmpienmhaaGreat
open Abs
def sFactsIn.code : ACode := (q_ (r_ [s 2 (.mv (.const (.slice none 0 0)))]) (q_ (r_ [s 5 (.bslice 96 2 true []), v_ 3 5]) (q_ (q_ (r_ [s 4 (.mv (i_ 0))]) (.block 0 (.loop (q_ (q_ (r_ [v_ 6 4, v_ 7 0, s 8 (.len false (t 7)), s 9 (.bin .lss (t 6) (t 8))]) (.cond (t 9) .skip (.exit 0))) (q_ (.block 1 (r_ [v_ 12 3, v_ 13 0, v_ 14 4, s 15 (.iadr 3 (t 13) (t 14)), s 16 (f_ 0 15), s 17 (a_ 2 16), s 18 (.call 163 [t 17]), s 19 (.bslice 96 2 false [t 18]), s 20 (.append 96 2 40 (t 12) (t 19)), v_ 3 20])) (r_ [v_ 10 4, s 11 (.bin .add (t 10) (i_ 1)), v_ 4 11])))))) (q_ (r_ [v_ 21 3, v_ 2 21]) .ret))))
theorem sFactsIn.ir : IrAt Tryz.prog 97 sFactsIn.code [0, 2, 3, 4] [.tmp 2] Tryz.f97.ntmps := ir_ Tryz.func97
abbrev sFactsIn.Own (args : List AV) (x : Tr) : Prop := Abs.Own true Tryz.prog 97 args x
abbrev sFactsIn.Ret (args : List AV) (r : AV) (frs : Fr) : Prop := Abs.Ret true Tryz.prog 97 args r frs
def pFactsIn.code : ACode := (q_ (r_ [s 2 (.mv (.const (.slice none 0 0)))]) (q_ (r_ [v_ 6 0, s 7 (.len false (t 6)), s 8 (.make 96 [(.string (.mk (.mk []))), (.slice none 0 0)] 2 40 (t 7)), v_ 3 8]) (q_ (q_ (r_ [v_ 9 0, s 10 (.len false (t 9)), s 11 (.mv (i_ 0))]) (.block 0 (.loop (q_ (r_ [s 12 (.bin .lss (t 11) (t 10))]) (q_ (.cond (t 12) .skip (.exit 0)) (q_ (.block 1 (q_ (r_ [v_ 13 11, s 14 (.iadr 3 (t 9) (t 11)), s 15 (a_ 3 14), s 5 (.alloc [(.string (.mk (.mk []))), (.slice none 0 0), (.int .i64 (.ofNat 0))]), v_ 4 13, ⟨none, none, (.store 3 (t 5) (t 15))⟩]) (r_ [v_ 16 3, v_ 17 4, s 18 (f_ 0 5), s 19 (a_ 2 18), s 20 (.call 144 [t 19]), s 21 (.iadr 2 (t 16) (t 17)), ⟨none, none, (.store 2 (t 21) (t 20))⟩]))) (r_ [s 22 (.bin .add (t 11) (i_ 1)), v_ 11 22]))))))) (q_ (r_ [v_ 23 3, v_ 2 23]) .ret))))
theorem pFactsIn.ir : IrAt Tryz.prog 107 pFactsIn.code [0, 2, 3, 4, 5, 9, 10, 11, 12] [.tmp 2] Tryz.f107.ntmps := ir_ Tryz.func107
abbrev pFactsIn.Own (args : List AV) (x : Tr) : Prop := Abs.Own true Tryz.prog 107 args x
abbrev pFactsIn.Ret (args : List AV) (r : AV) (frs : Fr) : Prop := Abs.Ret true Tryz.prog 107 args r frs
def sIsMemory.code : ACode := (q_ (r_ [s 2 mf_]) (q_ (q_ (r_ [s 3 (.mv (i_ 0))]) (.block 0 (.loop (q_ (q_ (r_ [v_ 5 3, v_ 6 0, s 7 (.len false (t 6)), s 8 (.bin .lss (t 5) (t 7))]) (.cond (t 8) .skip (.exit 0))) (q_ (.block 1 (q_ (q_ (r_ [v_ 11 0, v_ 12 3, s 13 (.iadr 3 (t 11) (t 12)), s 14 (f_ 2 13), s 15 (l_ 14), s 16 (.call 70 [t 15, (i_ 1), (i_ 200)]), s 17 (.not (t 16))]) (.cond (t 17) (q_ (r_ [s 2 mf_]) .ret) .skip)) (q_ (r_ [s 4 (.mv (i_ 0))]) (.block 2 (.loop (q_ (q_ (r_ [v_ 18 4, v_ 19 3, s 20 (.bin .lss (t 18) (t 19))]) (.cond (t 20) .skip (.exit 2))) (q_ (.block 3 (q_ (.region true [v_ 23 0, v_ 24 4, s 25 (.iadr 3 (t 23) (t 24)), s 26 (f_ 2 25), s 27 (l_ 26), v_ 28 0, v_ 29 3, s 30 (.iadr 3 (t 28) (t 29)), s 31 (f_ 2 30), s 32 (l_ 31), s 33 (.bin .eql (t 27) (t 32))]) (.cond (t 33) (q_ (r_ [s 2 mf_]) .ret) .skip))) (r_ [v_ 21 4, s 22 (.bin .add (t 21) (i_ 1)), v_ 4 22])))))))) (r_ [v_ 9 3, s 10 (.bin .add (t 9) (i_ 1)), v_ 3 10])))))) (q_ (r_ [v_ 34 0, s 35 (.call 97 [t 34]), s 36 (.call 96 [t 35]), v_ 2 36]) .ret)))
theorem sIsMemory.ir : IrAt Tryz.prog 39 sIsMemory.code [0, 2, 3, 4] [.tmp 2] Tryz.f39.ntmps := ir_ Tryz.func39
abbrev sIsMemory.Ret (args : List AV) (r : AV) (frs : Fr) : Prop := Abs.Ret true Tryz.prog 39 args r frs
def pIsMemory.code : ACode := (q_ (r_ [s 2 mf_]) (q_ (q_ (r_ [v_ 6 0, s 7 (.call 107 [t 6]), s 8 (.call 106 [t 7]), s 9 (.not (t 8))]) (.cond (t 9) (q_ (r_ [s 2 mf_]) .ret) .skip)) (q_ (r_ [s 10 (.vmap (.kInt .i64) .kBool), v_ 3 10]) (q_ (q_ (r_ [v_ 11 0, s 12 (.len false (t 11)), s 13 (.mv (i_ 0))]) (.block 0 (.loop (q_ (r_ [s 14 (.bin .lss (t 13) (t 12))]) (q_ (.cond (t 14) .skip (.exit 0)) (q_ (.block 1 (q_ (r_ [s 15 (.iadr 3 (t 11) (t 13)), s 16 (a_ 3 15), s 5 (.alloc [(.string (.mk (.mk []))), (.slice none 0 0), (.int .i64 (.ofNat 0))]), ⟨none, none, (.store 3 (t 5) (t 16))⟩]) (q_ (q_ (r_ [s 17 (f_ 2 5), s 18 (l_ 17), s 19 (.bin .lss (t 18) (i_ 1)), v_ 20 19, g 20 false 21 (f_ 2 5), g 20 false 22 (l_ 21), g 20 false 23 (.bin .gtr (t 22) (i_ 200)), s 24 (.or (t 20) (t 23)), v_ 25 24, g 25 false 26 (.mv (t 3)), g 25 false 27 (f_ 2 5), g 25 false 28 (l_ 27), g 25 false 29 (.vlook false (.kInt .i64) .kBool (t 26) (t 28)), s 30 (.or (t 25) (t 29))]) (.cond (t 30) (q_ (r_ [s 2 mf_]) .ret) .skip)) (r_ [v_ 31 3, s 32 (f_ 2 5), s 33 (l_ 32), ⟨none, none, (.vput (.kInt .i64) .kBool (t 31) (t 33) (.const (.bool true)))⟩])))) (r_ [s 34 (.bin .add (t 13) (i_ 1)), v_ 13 34]))))))) (q_ (r_ [s 2 mt_]) .ret)))))
theorem pIsMemory.ir : IrAt Tryz.prog 48 pIsMemory.code [0, 2, 3, 5, 11, 12, 13, 14] [.tmp 2] Tryz.f48.ntmps := ir_ Tryz.func48
abbrev pIsMemory.Ret (args : List AV) (r : AV) (frs : Fr) : Prop := Abs.Ret true Tryz.prog 48 args r frs
def sHasFired.code : ACode := (q_ (r_ [s 3 (.box (t 1)), s 4 mf_]) (q_ (q_ (r_ [s 5 (.mv (i_ 0))]) (.block 0 (.loop (q_ (q_ (r_ [v_ 6 5, v_ 7 0, s 8 (.len false (t 7)), s 9 (.bin .lss (t 6) (t 8))]) (.cond (t 9) .skip (.exit 0))) (q_ (.block 1 (q_ (.region true [v_ 12 0, v_ 13 5, s 14 (.iadr 2 (t 12) (t 13)), s 15 (f_ 0 14), s 16 (l_ 15), s 17 (f_ 0 3), s 18 (f_ 0 17), s 19 (l_ 18), s 20 (.bin .eql (t 16) (t 19)), v_ 21 20, g 21 true 22 (.mv (t 0)), g 21 true 23 (.mv (t 5)), g 21 true 24 (.iadr 2 (t 22) (t 23)), g 21 true 25 (f_ 1 24), g 21 true 26 (l_ 25), g 21 true 27 (f_ 4 3), g 21 true 28 (l_ 27), g 21 true 29 (.call 124 [t 26, t 28]), s 30 (.and (t 21) (t 29))]) (.cond (t 30) (q_ (r_ [s 4 mt_]) .ret) .skip))) (r_ [v_ 10 5, s 11 (.bin .add (t 10) (i_ 1)), v_ 5 11])))))) (q_ (r_ [s 4 mf_]) .ret)))
theorem sHasFired.ir : IrAt Tryz.prog 72 sHasFired.code [0, 1, 3, 4, 5] [.tmp 4] Tryz.f72.ntmps := ir_ Tryz.func72
abbrev sHasFired.Ret (args : List AV) (r : AV) (frs : Fr) : Prop := Abs.Ret true Tryz.prog 72 args r frs
def s9SameInts.code : ACode := (q_ (r_ [s 4 mf_]) (q_ (q_ (r_ [v_ 6 0, s 7 (.len false (t 6)), v_ 8 1, s 9 (.len false (t 8)), s 10 (.bin .neq (t 7) (t 9))]) (.cond (t 10) (q_ (r_ [s 4 mf_]) .ret) .skip)) (q_ (q_ (r_ [s 5 (.mv (i_ 0))]) (.block 0 (.loop (q_ (q_ (r_ [v_ 11 5, v_ 12 0, s 13 (.len false (t 12)), s 14 (.bin .lss (t 11) (t 13))]) (.cond (t 14) .skip (.exit 0))) (q_ (.block 1 (q_ (.region true [v_ 17 0, v_ 18 5, s 19 (.iadr 1 (t 17) (t 18)), s 20 (l_ 19), v_ 21 1, v_ 22 5, s 23 (.iadr 1 (t 21) (t 22)), s 24 (l_ 23), s 25 (.bin .neq (t 20) (t 24))]) (.cond (t 25) (q_ (r_ [s 4 mf_]) .ret) .skip))) (r_ [v_ 15 5, s 16 (.bin .add (t 15) (i_ 1)), v_ 5 16])))))) (q_ (r_ [s 4 mt_]) .ret))))
theorem s9SameInts.ir : IrAt Tryz.prog 124 s9SameInts.code [0, 1, 4, 5] [.tmp 4] Tryz.f124.ntmps := ir_ Tryz.func124
abbrev s9SameInts.Ret (args : List AV) (r : AV) (frs : Fr) : Prop := Abs.Ret true Tryz.prog 124 args r frs
def slContainsFuncG.code : ACode := (q_ (r_ [s 4 mf_]) (q_ (r_ [v_ 5 0, v_ 6 1, s 7 (.call 183 [t 5, t 6]), s 8 (.bin .geq (t 7) (i_ 0)), v_ 4 8]) .ret))
theorem slContainsFuncG.ir : IrAt Tryz.prog 132 slContainsFuncG.code [0, 1, 4] [.tmp 4] Tryz.f132.ntmps := ir_ Tryz.func132
abbrev slContainsFuncG.Ret (args : List AV) (r : AV) (frs : Fr) : Prop := Abs.Ret true Tryz.prog 132 args r frs
def slIndexFuncG.code : ACode := (q_ (r_ [s 4 (.mv (i_ 0))]) (q_ (q_ (r_ [v_ 6 0, s 7 (.len false (t 6)), s 8 (.mv (i_ 0))]) (.block 0 (.loop (q_ (r_ [s 9 (.bin .lss (t 8) (t 7))]) (q_ (.cond (t 9) .skip (.exit 0)) (q_ (.block 1 (q_ (r_ [v_ 10 8, v_ 5 10]) (q_ (r_ [v_ 11 1, v_ 12 0, v_ 13 5, s 14 (.iadr 2 (t 12) (t 13)), s 15 (a_ 2 14), s 16 (.callv (t 11) [t 15])]) (.cond (t 16) (q_ (r_ [v_ 17 5, v_ 4 17]) .ret) .skip)))) (r_ [s 18 (.bin .add (t 8) (i_ 1)), v_ 8 18]))))))) (q_ (r_ [s 4 (.mv (.const (.int .i64 (-1))))]) .ret)))
theorem slIndexFuncG.ir : IrAt Tryz.prog 183 slIndexFuncG.code [0, 1, 4, 5, 7, 8, 9] [.tmp 4] Tryz.f183.ntmps := ir_ Tryz.func183
abbrev slIndexFuncG.Ret (args : List AV) (r : AV) (frs : Fr) : Prop := Abs.Ret true Tryz.prog 183 args r frs
end Go.Proofs.YtiloafmpienmhaaGreat
namespace Go.Proofs.YtiloafmpienmhaaGreat
namespace Abs
open Go.RowKit
mutual
def tkT : Tr → Nat → AV
  | .v x, _ => .val x
  | .s x, _ => .str x
  | .l _ _ xs, n => .list (some (n + nbLL xs)) (tkLL xs n)
  | .a fs, n => .agg (tkL fs n)
  | .p fs, n => .tup (tkL fs n)
def tkL : List Tr → Nat → List AV
  | [], _ => []
  | x :: xs, n => tkT x n :: tkL xs (n + nb x)
def tkLL : List (List Tr) → Nat → List (List AV)
  | [], _ => []
  | x :: xs, n => tkL x n :: tkLL xs (n + nbL x)
end
mutual
def frT : Tr → Fr
  | .v _ => []
  | .s _ => []
  | .l t sz xs => frLL xs ++ [(t, sz, xs.length)]
  | .a fs => frL fs
  | .p fs => frL fs
def frL : List Tr → Fr
  | [] => []
  | x :: xs => frT x ++ frL xs
def frLL : List (List Tr) → Fr
  | [] => []
  | x :: xs => frL x ++ frLL xs
end
mutual
theorem length_frT : ∀ x : Tr, (frT x).length = nb x
  | .v _ => rfl
  | .s _ => rfl
  | .l _ _ xs => by rw [frT, nb, List.length_append, length_frLL xs]; rfl
  | .a fs => by rw [frT, nb, length_frL fs]
  | .p fs => by rw [frT, nb, length_frL fs]
theorem length_frL : ∀ x : List Tr, (frL x).length = nbL x
  | [] => rfl
  | x :: xs => by rw [frL, nbL, List.length_append, length_frT x, length_frL xs]
theorem length_frLL : ∀ x : List (List Tr), (frLL x).length = nbLL x
  | [] => rfl
  | x :: xs => by rw [frLL, nbLL, List.length_append, length_frL x, length_frLL xs]
end
theorem frL_append : ∀ xs ys, frL (xs ++ ys) = frL xs ++ frL ys
  | [], _ => rfl
  | x :: xs, ys => by rw [List.cons_append, frL, frL, frL_append xs, List.append_assoc]
theorem frLL_flatten : ∀ xs, frLL xs = frL xs.flatten
  | [] => rfl
  | x :: xs => by rw [frLL, List.flatten_cons, frL_append, frLL_flatten xs]
theorem tkL_append : ∀ xs ys n, tkL (xs ++ ys) n = tkL xs n ++ tkL ys (n + nbL xs)
  | [], ys, n => by rw [nbL]; rfl
  | x :: xs, ys, n => by rw [List.cons_append, tkL, tkL, tkL_append xs, nbL, Nat.add_assoc]; rfl
theorem tkLL_flatten : ∀ xs n, (tkLL xs n).flatten = tkL xs.flatten n
  | [], _ => rfl
  | x :: xs, n => by rw [tkLL, List.flatten_cons, List.flatten_cons, tkL_append, tkLL_flatten xs]
theorem length_tkL : ∀ xs n, (tkL xs n).length = xs.length
  | [], _ => rfl
  | x :: xs, n => by rw [tkL, List.length_cons, length_tkL xs]; rfl
theorem length_tkLL : ∀ xs n, (tkLL xs n).length = xs.length
  | [], _ => rfl
  | x :: xs, n => by rw [tkLL, List.length_cons, length_tkLL xs]; rfl
theorem tkLL_sz {sz : Nat} : ∀ xs n, (∀ e ∈ xs, e.length = sz) → ∀ e ∈ tkLL xs n, e.length = sz
  | [], _, _, e, he => by cases he
  | x :: xs, n, h, e, he => by
    rw [tkLL] at he
    rcases List.mem_cons.1 he with rfl | he
    · rw [length_tkL]; exact h x List.mem_cons_self
    · exact tkLL_sz xs _ (fun e he => h e (List.mem_cons_of_mem _ he)) e he
def TokOne (B : Nat) (w : World) (x : Tr) (v : Value) (d1 : List Nat) : Prop :=
  ∃ ids : List (Option Nat), ids.length = nb x ∧ (∀ (i b : Nat), ids[i]? = some (some b) → b ∈ d1) ∧ (d1.Nodup → ∀ (i j b : Nat), ids[i]? = some (some b) → ids[j]? = some (some b) → i = j) ∧
    ((∀ d ∈ d1, B ≤ d) → ∀ (n : Nat) (F : Nat → Nat) (tok : List (Option Nat)) (fr : Fr), (∀ (i : Nat) d, ids[i]? = some d → tok[n + i]? = some d) → (∀ (i : Nat) y, (frT x)[i]? = some y → fr[n + i]? = some y) →
      (∀ (i b t s m : Nat), ids[i]? = some (some b) → (frT x)[i]? = some (t, s, m) → F b = m * s) → ∀ box, Rep B w F tok fr box (tkT x n) v)
def TokAll (B : Nat) (w : World) (xs : List Tr) (vs : List Value) (d1 : List Nat) : Prop :=
  ∃ ids : List (Option Nat), ids.length = nbL xs ∧ (∀ (i b : Nat), ids[i]? = some (some b) → b ∈ d1) ∧ (d1.Nodup → ∀ (i j b : Nat), ids[i]? = some (some b) → ids[j]? = some (some b) → i = j) ∧
    ((∀ d ∈ d1, B ≤ d) → ∀ (n : Nat) (F : Nat → Nat) (tok : List (Option Nat)) (fr : Fr), (∀ (i : Nat) d, ids[i]? = some d → tok[n + i]? = some d) → (∀ (i : Nat) y, (frL xs)[i]? = some y → fr[n + i]? = some y) →
      (∀ (i b t s m : Nat), ids[i]? = some (some b) → (frL xs)[i]? = some (t, s, m) → F b = m * s) → ∀ (i : Nat) x v, (tkL xs n)[i]? = some x → vs[i]? = some v → ∀ box, Rep B w F tok fr box x v)
theorem TokAll.cons {B : Nat} {w : World} {x : Tr} {v : Value} {xs : List Tr} {vs : List Value} {d1 ds : List Nat} (h1 : TokOne B w x v d1) (h2 : TokAll B w xs vs ds) : TokAll B w (x :: xs) (v :: vs) (d1 ++ ds) := by
  obtain ⟨ids1, l1, m1, n1, r1⟩ := h1
  obtain ⟨ids2, l2, m2, n2, r2⟩ := h2
  refine ⟨ids1 ++ ids2, by rw [List.length_append, l1, l2, nbL], fun i b hi => ?_, fun hnd i j b hi hj => ?_, fun hB n F tok fr ht hf hF i y u hy hu box => ?_⟩
  · rw [List.getElem?_append] at hi
    split at hi
    · exact List.mem_append_left _ (m1 _ _ hi)
    · exact List.mem_append_right _ (m2 _ _ hi)
  · obtain ⟨e1, e2, e3⟩ := List.nodup_append.1 hnd
    rw [List.getElem?_append] at hi hj
    split at hi <;> split at hj
    · exact n1 e1 _ _ _ hi hj
    · exact absurd rfl (e3 b (m1 _ _ hi) b (m2 _ _ hj))
    · exact absurd rfl (e3 b (m1 _ _ hj) b (m2 _ _ hi))
    · have := n2 e2 _ _ _ hi hj; omega
  · have hfl : (frT x).length = ids1.length := by rw [length_frT, l1]
    cases i with
    | zero =>
      rw [tkL] at hy
      simp only [List.getElem?_cons_zero, Option.some.injEq] at hy hu
      subst hy; subst hu
      refine r1 (fun d hd => hB d (List.mem_append_left _ hd)) n F tok fr (fun i d hi => ht i d (by rw [List.getElem?_append_left (getElem?_lt hi)]; exact hi)) (fun i y hi => hf i y (by rw [frL, List.getElem?_append_left (getElem?_lt hi)]; exact hi)) (fun i b t s m hi hm => hF i b t s m ?_ ?_) box
      · rw [List.getElem?_append_left (getElem?_lt hi)]; exact hi
      · rw [frL, List.getElem?_append_left (getElem?_lt hm)]; exact hm
    | succ i =>
      rw [tkL] at hy
      refine r2 (fun d hd => hB d (List.mem_append_right _ hd)) (n + nb x) F tok fr (fun i d hi => ?_) (fun i y hi => ?_) (fun i b t s m hi hm => ?_) i y u (by simpa using hy) (by simpa using hu) box
      · rw [Nat.add_assoc]; refine ht (nb x + i) d ?_
        rw [List.getElem?_append_right (by omega), l1, Nat.add_sub_cancel_left]; exact hi
      · rw [Nat.add_assoc]; refine hf (nb x + i) y ?_
        rw [frL, List.getElem?_append_right (by rw [length_frT]; omega), length_frT, Nat.add_sub_cancel_left]; exact hi
      · refine hF (nb x + i) b t s m ?_ ?_
        · rw [List.getElem?_append_right (by omega), l1, Nat.add_sub_cancel_left]; exact hi
        · rw [frL, List.getElem?_append_right (by rw [length_frT]; omega), length_frT, Nat.add_sub_cancel_left]; exact hm
theorem TokOne.flat {B : Nat} {w : World} {x : Tr} {v : Value} (h0 : nb x = 0) (h : ∀ n F tok fr box, Rep B w F tok fr box (tkT x n) v) : TokOne B w x v [] :=
  ⟨[], by rw [h0]; rfl, by simp, by simp, fun _ n F tok fr _ _ _ box => h n F tok fr box⟩
theorem OwnL.toks {B : Nat} {w : World} {xs : List Tr} {vs : List Value} {ds : List Nat} (h : OwnL w xs vs ds) : TokAll B w xs vs ds := by
  induction h with
  | nil => exact ⟨[], rfl, by simp, by simp, fun _ n F tok fr _ _ _ i x v hx => by simp [tkL] at hx⟩
  | v x hp _ ih => exact TokAll.cons (d1 := []) (.flat rfl fun _ _ _ _ _ => .val _) ih
  | s x _ ih => exact TokAll.cons (d1 := []) (.flat rfl fun _ _ _ _ _ => .str _) ih
  | none t sz _ ih =>
    refine TokAll.cons (d1 := []) ⟨[Option.none], rfl, fun i b hi => ?_, fun _ i j b hi hj => ?_, fun _ n F tok fr ht hf _ box => ?_⟩ ih
    · cases i <;> simp at hi
    · cases i <;> simp at hi
    · refine .list (some (n + 0)) [] Option.none 0 sz 0 0 (fun _ _ => undef) (Nat.le_refl _) (fun h => absurd rfl h) (by simp) (fun h => absurd rfl h) (by simp) (by simp) (fun k hk => ?_)
      cases hk
      exact ⟨t, sz, 0, hf 0 _ rfl, Nat.le_refl _, fun _ => ⟨rfl, ⟨[], by simp, Or.inl ⟨rfl, rfl⟩⟩, ht 0 _ rfl, fun b hb => by cases hb⟩⟩
  | l t sz es b cap c us hb hc hl hm hs hu h1 he _ ih1 ih2 =>
    refine TokAll.cons (d1 := b :: _) ?_ ih2
    obtain ⟨ids, l1, m1, n1, r1⟩ := ih1
    rw [← nbLL_flatten] at l1
    have last : ∀ {i : Nat} {d : Option Nat}, (ids ++ [some b])[i]? = some d → ids[i]? = some d ∨ (i = ids.length ∧ d = some b) := fun {i d} hi => by
      rw [List.getElem?_append] at hi
      split at hi
      · exact .inl hi
      · rw [List.getElem?_singleton] at hi
        split at hi
        · cases hi; exact .inr ⟨by omega, rfl⟩
        · cases hi
    refine ⟨ids ++ [some b], by rw [List.length_append, l1, nb]; rfl, fun i b' hi => ?_, fun hnd i j b' hi hj => ?_, fun hB n F tok fr ht hf hF box => ?_⟩
    · rcases last hi with hi | ⟨_, hi⟩
      · exact List.mem_cons_of_mem _ (m1 _ _ hi)
      · cases hi; exact List.mem_cons_self
    · obtain ⟨e1, e2⟩ := List.nodup_cons.1 hnd
      rcases last hi with hi | ⟨hi, hi'⟩ <;> rcases last hj with hj | ⟨hj, hj'⟩
      · exact n1 e2 _ _ _ hi hj
      · cases hj'; exact absurd (m1 _ _ hi) e1
      · cases hi'; exact absurd (m1 _ _ hj) e1
      · omega
    · have hlast : (frT (.l t sz es))[nbLL es]? = some (t, sz, es.length) := by
        rw [frT, List.getElem?_append_right (by rw [length_frLL]; omega), length_frLL, Nat.sub_self]; rfl
      have hFb : F b = es.length * sz := hF (nbLL es) b t sz es.length (by rw [List.getElem?_append_right (by omega), l1, Nat.sub_self]; rfl) hlast
      have hin := r1 (fun d hd => hB d (List.mem_cons_of_mem _ hd)) n F tok fr (fun i d hi => ht i d (by rw [List.getElem?_append_left (getElem?_lt hi)]; exact hi))
        (fun i y hi => hf i y (by rw [frT, frLL_flatten, List.getElem?_append_left (getElem?_lt hi)]; exact hi))
        (fun i b' t' s' m' hi hm' => hF i b' t' s' m' (by rw [List.getElem?_append_left (getElem?_lt hi)]; exact hi) (by rw [frT, frLL_flatten, List.getElem?_append_left (getElem?_lt hm')]; exact hm'))
      have hlen : (tkLL es n).length = es.length := length_tkLL es n
      have hsz : ∀ e ∈ tkLL es n, e.length = sz := tkLL_sz es n hs
      have hcs : es.length * sz ≤ c.size := by rw [hc]; exact Nat.mul_le_mul_right _ hl
      have hul : us.length = es.length * sz := by rw [← hu]; simp; omega
      have key : ∀ (i : Nat) e (j : Nat) y, (tkLL es n)[i]? = some e → e[j]? = some y → i * sz + j < c.size ∧ us[i * sz + j]? = some (c.getD (i * sz + j) undef) ∧ Rep B w F tok fr [] y (c.getD (i * sz + j) undef) := fun i e j y hi hj => by
        have hf := flatten_get sz (tkLL es n) i j e y hsz hi hj
        rw [tkLL_flatten] at hf
        have hlt : i * sz + j < us.length := by
          have := getElem?_lt hf
          rw [length_tkL] at this
          rw [← he.length]; exact this
        obtain ⟨g1, g2⟩ := getD_take hu hlt
        exact ⟨g2, g1, hin _ y _ hf g1 []⟩
      show Rep B w F tok fr box (.list (some (n + nbLL es)) (tkLL es n)) (.slice (some ⟨b, 0, Option.none⟩) es.length cap)
      rw [← hlen]
      refine .list (some (n + nbLL es)) (tkLL es n) _ cap sz b 0 (fun i j => c.getD (i * sz + j) undef) (by omega) (fun _ => rfl) hsz (fun _ => ?_) (fun i e j y hi hj => ?_) (fun i e j y hi hj => (key i e j y hi hj).2.2) (fun k hk => ?_)
      · rw [hFb, hlen, Nat.zero_add]; exact Nat.le_refl _
      · obtain ⟨k1, k2, _⟩ := key i e j y hi hj
        exact ⟨by rw [Nat.zero_add]; simp [World.cell?, hb, k1, Array.getD], h1 _ (List.mem_of_getElem? k2)⟩
      · cases hk
        rw [hlen]
        refine ⟨t, sz, es.length, hf _ _ hlast, Nat.le_refl _, fun _ => ⟨rfl, ⟨us, hul, Or.inr ⟨b, cap, c, rfl, hB b List.mem_cons_self, hb, hl, hm, hc, hu⟩⟩, ?_, fun b' hb' => by cases hb'; exact hFb⟩⟩
        exact ht (nbLL es) _ (by rw [List.getElem?_append_right (by omega), l1, Nat.sub_self]; rfl)
  | a fs us h1 he _ ih1 ih2 =>
    refine TokAll.cons ?_ ih2
    obtain ⟨ids, l1, m1, n1, r1⟩ := ih1
    refine ⟨ids, by rw [l1, nb], m1, n1, fun hB n F tok fr ht hf hF box => ?_⟩
    have hin := r1 hB n F tok fr ht (by rw [frT] at hf; exact hf) (by rw [frT] at hF; exact hF)
    have hl := he.length
    have hg : ∀ i, i < us.size → us.toList[i]? = some (us.getD i undef) := fun i hi => by simp [Array.getD, hi]
    rw [tkT]
    refine .agg _ us (by rw [length_tkL]; simpa using hl) (fun i hi => h1 _ (List.mem_of_getElem? (hg i hi))) (fun i c hc => ?_)
    have := getElem?_lt hc
    rw [length_tkL] at this
    exact hin i c _ hc (hg i (by simp at hl; omega)) box
  | p fs us he _ ih1 ih2 =>
    refine TokAll.cons ?_ ih2
    obtain ⟨ids, l1, m1, n1, r1⟩ := ih1
    refine ⟨ids, by rw [l1, nb], m1, n1, fun hB n F tok fr ht hf hF box => ?_⟩
    have hin := r1 hB n F tok fr ht (by rw [frT] at hf; exact hf) (by rw [frT] at hF; exact hF)
    have hl := he.length
    have hg : ∀ i, i < us.size → us.toList[i]? = some (us.getD i undef) := fun i hi => by simp [Array.getD, hi]
    rw [tkT]
    refine .tup _ us (by rw [length_tkL]; simpa using hl) (fun i c hc => ?_)
    have := getElem?_lt hc
    rw [length_tkL] at this
    exact hin i c _ hc (hg i (by simp at hl; omega)) box
variable {mo : Bool}
theorem ORet.ret {P : Program} {f : Nat} {args : List AV} {x : Tr} (h : ORet mo P f args x) : ARet mo P f args (tkT x 0) (frT x) := by
  refine ⟨h.1, fun w F vs hcond hout hargs => (h.2 w F vs hcond hout hargs).mono ?_⟩
  rintro e w' ⟨v, ds, rfl, hb, hown, hnd, hds⟩
  obtain ⟨ids, l1, m1, n1, r1⟩ := hown.toks (B := w.heap.size)
  have hfl : frL [x] = frT x := by rw [frL, frL, List.append_nil]
  rw [show nbL [x] = nb x by rw [nbL, nbL, Nat.add_zero]] at l1
  -- what is known of a block's length
  let G : Nat → Option (Option Nat × (Nat × Nat × Nat)) := fun b => (ids.zip (frT x)).find? fun p => p.1 == some b
  have hG : ∀ b p, G b = some p → b ∈ ds := fun b p hp => by
    have h1 := List.find?_some hp
    have h2 := List.mem_of_find?_eq_some hp
    obtain ⟨i, hi⟩ := List.getElem?_of_mem (List.of_mem_zip h2).1
    rw [beq_iff_eq] at h1
    exact m1 i b (by rw [hi, h1])
  refine ⟨v, fun b => match G b with | some p => p.2.2.2 * p.2.2.1 | none => F b, ids, [], rfl, hb, fun b hlt => ?_, fun b hge => ?_, by rw [l1, length_frT], fun k b hk => hds b (m1 k b hk), fun k l b hk hl => n1 hnd k l b hk hl, ?_⟩
  · cases hg : G b with
    | none => simp only [hg]
    | some p => have := (hds b (hG b p hg)).1; omega
  · cases hg : G b with
    | none => simp only [hg]; exact hout b (Nat.le_trans hb.size hge)
    | some p => have := (hds b (hG b p hg)).2; omega
  · refine r1 (fun d hd => (hds d hd).1) 0 _ ids (frT x) (fun i d hi => by rw [Nat.zero_add]; exact hi) (fun i y hi => by rw [Nat.zero_add, ← hfl]; exact hi) (fun i b t s m hi hm => ?_) 0 _ v (by rw [tkL]; rfl) rfl []
    rw [hfl] at hm
    have hz : (ids.zip (frT x))[i]? = some (some b, (t, s, m)) := by rw [List.getElem?_zip_eq_some]; exact ⟨hi, hm⟩
    cases hg : G b with
    | none =>
      have := List.find?_eq_none.1 hg _ (List.mem_of_getElem? hz)
      simp at this
    | some p =>
      have h1 := List.find?_some hg
      obtain ⟨j, hj⟩ := List.getElem?_of_mem (List.mem_of_find?_eq_some hg)
      rw [beq_iff_eq] at h1
      obtain ⟨j1, j2⟩ := List.getElem?_zip_eq_some.1 hj
      rw [h1] at j1
      have := n1 hnd i j b hi j1
      subst this
      rw [hm] at j2
      simp only [hg]
      rw [← Option.some.inj j2]
theorem Own.ret {P : Program} {f : Nat} {args : List AV} {x : Tr} (h : Own mo P f args x) : Ret mo P f args (tkT x 0) (frT x) := by
  rw [Own_eq] at h; rw [Ret_eq]; exact h.ret
def Canon {α : Type} (T : Ty α) : Prop := ∀ a, (∀ n, T.tk a n = tkL (T.q a) n) ∧ T.fr a = frL (T.q a)
mutual
theorem tkT_old : ∀ (x : Tr) (n : Nat), nb x = 0 → tkT x n = old x
  | .v _, _, _ => rfl
  | .s _, _, _ => rfl
  | .l _ _ xs, _, h => by rw [nb] at h; omega
  | .a fs, n, h => by rw [nb] at h; rw [tkT, old, tkL_old fs n h]
  | .p fs, n, h => by rw [nb] at h; rw [tkT, old, tkL_old fs n h]
theorem tkL_old : ∀ (x : List Tr) (n : Nat), nbL x = 0 → tkL x n = oldL x
  | [], _, _ => rfl
  | x :: xs, n, h => by rw [nbL] at h; rw [tkL, oldL, tkT_old x n (by omega), tkL_old xs _ (by omega)]
end
theorem tkLL_old : ∀ (x : List (List Tr)) (n : Nat), nbLL x = 0 → tkLL x n = oldLL x
  | [], _, _ => rfl
  | x :: xs, n, h => by rw [nbLL] at h; rw [tkLL, oldLL, tkL_old x n (by omega), tkLL_old xs _ (by omega)]
theorem Canon.fr {α : Type} {T : Ty α} (h : Canon T) (a : α) : (T.fr a).length = nbL (T.q a) := by rw [(h a).2, length_frL]
theorem Canon.str : Canon Ty.str := fun _ => ⟨fun _ => rfl, rfl⟩
theorem Canon.pair {α β : Type} {T : Ty α} {U : Ty β} (h : Canon T) (k : Canon U) : Canon (Ty.pair T U) := fun a => by
  refine ⟨fun n => ?_, ?_⟩
  · show T.tk a.1 n ++ U.tk a.2 (n + (T.fr a.1).length) = tkL (T.q a.1 ++ U.q a.2) n
    rw [tkL_append, (h a.1).1, (k a.2).1, h.fr]
  · show T.fr a.1 ++ U.fr a.2 = frL (T.q a.1 ++ U.q a.2)
    rw [frL_append, (h a.1).2, (k a.2).2]
theorem Canon.tks {α : Type} {T : Ty α} (h : Canon T) : ∀ (l : List α) (n : Nat), Abs.tks T l n = tkLL (l.map T.q) n
  | [], _ => rfl
  | a :: l, n => by rw [Abs.tks, List.map_cons, tkLL, (h a).1, h.fr, h.tks l]
theorem Canon.frs {α : Type} {T : Ty α} (h : Canon T) : ∀ (l : List α), Abs.frs T l = frLL (l.map T.q)
  | [] => rfl
  | a :: l => by
    rw [List.map_cons, frLL, ← h.frs l, ← (h a).2]; rfl
theorem Canon.list {α : Type} {T : Ty α} (t : Nat) (h : Canon T) : Canon (Ty.list t T) := fun l => by
  have hf := h.frs l
  refine ⟨fun n => ?_, ?_⟩
  · show [AV.list (some (n + (Abs.frs T l).length)) (Abs.tks T l n)] = tkL [.l t T.sz (l.map T.q)] n
    rw [tkL, tkL, tkT, h.tks, hf, length_frLL]
  · show Abs.frs T l ++ [(t, T.sz, l.length)] = frL [.l t T.sz (l.map T.q)]
    rw [frL, frL, frT, hf, List.append_nil, List.length_map]
theorem Canon.plain {α : Type} {T : Ty α} (t : Nat) (h : ∀ a, T.fr a = []) (e : ∀ a, T.tk a 0 = oldL (T.q a)) (hc : Canon T) : Canon (Ty.plain t T h e) := fun l => by
  have h0 : nbLL (l.map T.q) = 0 := by
    induction l with
    | nil => rfl
    | cons a l ih => rw [List.map_cons, nbLL, ih, ← hc.fr a, h]; rfl
  have hf : frLL (l.map T.q) = [] := List.eq_nil_of_length_eq_zero (by rw [length_frLL, h0])
  refine ⟨fun n => ?_, ?_⟩
  · show [AV.list (some n) (oldLL (l.map T.q))] = tkL [.l t T.sz (l.map T.q)] n
    rw [tkL, tkL, tkT, h0, tkLL_old _ _ h0]; rfl
  · show [(t, T.sz, l.length)] = frL [.l t T.sz (l.map T.q)]
    rw [frL, frL, frT, hf, List.length_map]; rfl
theorem Canon.ret {α : Type} {T : Ty α} (hc : Canon T) {P : Program} {f : Nat} {args : List AV} {a : α} {x : Tr} {r : AV} (hx : T.q a = [x]) (hr : T.tk a 0 = [r]) (h : Own mo P f args x) : Ret mo P f args r (T.fr a) := by
  have h1 := h.ret
  obtain ⟨c1, c2⟩ := hc a
  have e1 := c1 0
  rw [hr, hx, tkL, tkL] at e1
  rw [hx, frL, frL, List.append_nil] at c2
  rw [(List.cons.inj e1).1, c2]; exact h1
end Abs
end Go.Proofs.YtiloafmpienmhaaGreat
namespace Go.Proofs.YtiloafmpienmhaaGreat
namespace Abs
variable {α : Type}
theorem OwnA.mono {F F' : Fr} {xs : List Tr} {cs : List AV} {ts : List Nat} (h : OwnA F xs cs ts) : (∀ k ∈ ts, F'[k]? = F[k]?) → OwnA F' xs cs ts := by
  induction h with
  | nil => exact fun _ => .nil
  | v x hp _ ih => exact fun hF => .v x hp (ih hF)
  | s x _ ih => exact fun hF => .s x (ih hF)
  | nils t sz _ ih => exact fun hF => .nils t sz (ih hF)
  | l t sz es k ys hk hl hs hy _ _ ih1 ih2 =>
    exact fun hF => .l t sz es k ys (by rw [hF k (by simp)]; exact hk) hl hs hy (ih1 fun j hj => hF j (by simp [hj])) (ih2 fun j hj => hF j (by simp [hj]))
  | a fs us _ _ ih1 ih2 => exact fun hF => .a fs us (ih1 fun j hj => hF j (by simp [hj])) (ih2 fun j hj => hF j (by simp [hj]))
  | av fs us h1 _ _ ih1 ih2 => exact fun hF => .av fs us h1 (ih1 fun j hj => hF j (by simp [hj])) (ih2 fun j hj => hF j (by simp [hj]))
  | p fs us _ _ ih1 ih2 => exact fun hF => .p fs us (ih1 fun j hj => hF j (by simp [hj])) (ih2 fun j hj => hF j (by simp [hj]))
theorem OwnA.lt {F : Fr} {xs : List Tr} {cs : List AV} {ts : List Nat} (h : OwnA F xs cs ts) : ∀ k ∈ ts, k < F.length := by
  induction h with
  | nil => simp
  | v _ _ _ ih => exact ih
  | s _ _ ih => exact ih
  | nils _ _ _ ih => exact ih
  | l t sz es k ys hk _ _ _ _ _ ih1 ih2 =>
    intro j hj
    simp only [List.cons_append, List.mem_cons, List.mem_append] at hj
    rcases hj with rfl | hj | hj
    · exact getElem?_lt hk
    · exact ih1 j hj
    · exact ih2 j hj
  | a _ _ _ _ ih1 ih2 => exact fun j hj => (List.mem_append.1 hj).elim (ih1 j) (ih2 j)
  | av _ _ _ _ _ ih1 ih2 => exact fun j hj => (List.mem_append.1 hj).elim (ih1 j) (ih2 j)
  | p _ _ _ _ ih1 ih2 => exact fun j hj => (List.mem_append.1 hj).elim (ih1 j) (ih2 j)
theorem OwnA.len {F : Fr} {xs : List Tr} {cs : List AV} {ts : List Nat} (h : OwnA F xs cs ts) : xs.length = cs.length := by
  induction h <;> simp_all
structure AccO (T : Ty α) (t k : Nat) (F : Fr) (al : List α) (ys : List (List AV)) (ts : List Nat) : Prop where
  hk : F[k]? = some (t, T.sz, al.length)
  hl : ys.length = al.length
  hs : ∀ y ∈ ys, y.length = T.sz
  own : OwnA F (al.map T.q).flatten ys.flatten ts
  nd : ts.Nodup
  kn : k ∉ ts
theorem AccO.nil {T : Ty α} {t k : Nat} {F : Fr} (hk : F[k]? = some (t, T.sz, 0)) : AccO T t k F [] [] [] := ⟨hk, rfl, by simp, .nil, List.nodup_nil, by simp⟩
theorem AccO.klt {T : Ty α} {t k : Nat} {F : Fr} {al : List α} {ys : List (List AV)} {ts : List Nat} (h : AccO T t k F al ys ts) : k < F.length := getElem?_lt h.hk
theorem AccO.grow {T : Ty α} {t k : Nat} {F : Fr} {al : List α} {ys : List (List AV)} {ts : List Nat} (h : AccO T t k F al ys ts) (G : Fr) : AccO T t k (F ++ G) al ys ts :=
  ⟨by rw [List.getElem?_append_left h.klt]; exact h.hk, h.hl, h.hs, h.own.mono fun j hj => List.getElem?_append_left (h.own.lt j hj), h.nd, h.kn⟩
theorem AccO.app {T : Ty α} {t k : Nat} {F : Fr} {al : List α} {ys : List (List AV)} {ts : List Nat} (h : AccO T t k F al ys ts) {m : Nat} (bs : List α) (zs : List (List AV)) (us : List Nat) (hm : m = al.length + bs.length) (hl : zs.length = bs.length) (hs : ∀ z ∈ zs, z.length = T.sz)
    (ho : OwnA F (bs.map T.q).flatten zs.flatten us) (hn : us.Nodup) (hd : ∀ j ∈ us, j ≠ k ∧ j ∉ ts) : AccO T t k (F.set k (t, T.sz, m)) (al ++ bs) (ys ++ zs) (ts ++ us) where
  hk := by rw [List.getElem?_set, if_pos rfl, if_pos h.klt, hm, List.length_append]
  hl := by rw [List.length_append, List.length_append, h.hl, hl]
  hs y hy := (List.mem_append.1 hy).elim (h.hs y) (hs y)
  own := by
    rw [List.map_append, List.flatten_append, List.flatten_append]
    refine OwnA.append (h.own.mono fun j hj => ?_) (ho.mono fun j hj => ?_)
    · rw [List.getElem?_set, if_neg fun e => h.kn (by rw [e]; exact hj)]
    · rw [List.getElem?_set, if_neg fun e => (hd j hj).1 e.symm]
  nd := List.nodup_append.2 ⟨h.nd, hn, fun a ha b hb e => (hd b hb).2 (by rw [← e]; exact ha)⟩
  kn hm := (List.mem_append.1 hm).elim h.kn fun hm => (hd k hm).1 rfl
theorem AccO.final {T : Ty α} {t k : Nat} {F : Fr} {al : List α} {ys : List (List AV)} {ts : List Nat} (h : AccO T t k F al ys ts) : ∃ us, OwnA F [.l t T.sz (al.map T.q)] [.list (some k) ys] us ∧ us.Nodup := by
  refine ⟨k :: ts ++ [], .l t T.sz _ k ys (by rw [h.hk, List.length_map]) (by rw [h.hl, List.length_map]) (fun e he => ?_) h.hs h.own .nil, ?_⟩
  · obtain ⟨a, _, rfl⟩ := List.mem_map.1 he
    exact T.hq a
  · rw [List.append_nil]; exact List.nodup_cons.2 ⟨h.kn, h.nd⟩
theorem Sees0.vals {vs : Array Value} {ys : List AV} (h1 : vs.toList.all (·.oneCell') = true) (h : SeesL Sees0 (vs.toList.map constAV) ys) : Sees0 (.val (.agg vs)) (.agg ys) := fun {B w F tok fr box v} hx B' box' => by
  rw [hx.val_inv]
  have hg : ∀ i, i < vs.size → vs.toList[i]? = some (vs.getD i undef) := fun i hi => by simp [Array.getD, hi]
  refine .agg ys vs (by rw [← h.length]; simp) (fun i hi => List.all_eq_true.1 h1 _ (List.mem_of_getElem? (hg i hi))) (fun i c hc => ?_)
  obtain ⟨x, hx', hS⟩ := h.get' hc
  rw [List.getElem?_map] at hx'
  obtain ⟨u, hu, rfl⟩ := Option.map_eq_some_iff.1 hx'
  have hi := getElem?_lt hu
  rw [hg i (by simpa using hi)] at hu
  cases hu
  exact hS (.rep _ _ (constAV_rep (B := B') (w := w) (F := F) (tok := []) (fr := []) (box := box') _)) B' box'
end Abs
end Go.Proofs.YtiloafmpienmhaaGreat
namespace Go.Proofs.YtiloafmpienmhaaGreat
open Abs
theorem Canon.int : Canon Ty.int := fun _ => ⟨fun _ => rfl, rfl⟩
mutual
theorem Abs.inB_nr {m : Nat} : ∀ {x : AV}, noRef x = true → inB m x
  | .bptr _ _, h => by cases h
  | .bsl _ _, h => by cases h
  | .bmap _, h => by cases h
  | .tag _ x, h => inB_nr (x := x) h
  | .agg cs, h => inBL_nr (cs := cs) h
  | .tup cs, h => inBL_nr (cs := cs) h
  | .clo _ a b, h => by
    have h' : (noRef.noRefL a && noRef.noRefL b) = true := h
    rw [Bool.and_eq_true] at h'
    exact ⟨inBL_nr (cs := a) h'.1, inBL_nr (cs := b) h'.2⟩
  | .cond _ _, h => by cases h
  | .any, _ => trivial
  | .val _, _ => trivial
  | .str _, _ => trivial
  | .list _ _, _ => trivial
  | .rptr _, _ => trivial
theorem Abs.inBL_nr {m : Nat} : ∀ {cs : List AV}, noRef.noRefL cs = true → inB.inBL m cs
  | [], _ => trivial
  | c :: cs, h => by
    have h' : (noRef c && noRef.noRefL cs) = true := h
    rw [Bool.and_eq_true] at h'
    exact ⟨inB_nr (x := c) h'.1, inBL_nr (cs := cs) h'.2⟩
end
theorem part_inT {α : Type} (T : Ty α) (m : Nat) (z : List AV) (hz : ∀ c ∈ z, noRef c = true) (l : List α) (n i : Nat) : inB.inBL m (part z (tks T l n) i) := by
  refine inBL_nr ?_
  rw [noRefL_all, List.all_eq_true]
  intro c hc
  rw [part, List.mem_append] at hc
  rcases hc with h | h
  · obtain ⟨x, hx, hc⟩ := List.mem_flatten.1 h
    exact tks_nr T l n c (List.mem_flatten.2 ⟨x, List.mem_of_mem_take hx, hc⟩)
  · obtain ⟨x, hx, hc⟩ := List.mem_flatten.1 h
    rw [List.eq_of_mem_replicate hx] at hc
    exact hz c hc
end Go.Proofs.YtiloafmpienmhaaGreat
namespace Go.Proofs.YtiloafmpienmhaaGreat
open Abs
def tInts : Ty (List Int) := Ty.plain 3 Ty.int (fun _ => rfl) (fun _ => rfl)
theorem tInts_size (l : List Int) : tInts.size l = l.length + listSize Ty.int l := rfl
theorem szI_zero : ∀ l : List Int, listSize Ty.int l = 0
  | [] => rfl
  | a :: l => by rw [listSize, szI_zero l]; rfl
theorem szI_eq (l : List Int) : l.length = tInts.size l := by rw [tInts_size, szI_zero, Nat.add_zero]
theorem ints_get {l : List Int} {i : Nat} (hi : i < l.length) : l[i]? = some (l.getD i default) := by simp [List.getD, hi]
theorem Abs.ACall.mk_IntS {C : Con} {lend : Bool} {f : Nat} {vs : List AV} {b : List ABox} {fr : Fr} {k : AV → List ABox → Fr → Prop} (ys : List AV) (l : List Int) (h : C.ret f ys (.list (some 0) (rows Ty.int l)) [(3, 1, l.length)]) (hv : SeesL Sees0 vs ys)
    (hk : k (.list (some fr.length) (rows Ty.int l)) b (fr ++ [(3, 1, l.length)])) : ACall C lend f vs b fr k :=
  ACall.mkV tInts ys l (fun n => .list (some n) (rows Ty.int l)) (fun _ => rfl) h hv hk
theorem toIntS.ret (l : List Int) (hl : l.length ≤ 1048576) : toIntS.Ret [.list none (rows Ty.int l)] (.list (some 0) (rows Ty.int l)) [(3, 1, l.length)] := by
  refine toIntS.ir.of rfl ?_
  have hsz : ∀ c ∈ rows Ty.int l, c.length = 1 := oldLL_sz Ty.int.hq
  repeat' first
    | contradiction | exact trivial
    | (conv => whnf
       first | refine Need.mk (fun h => h) ?_ | refine Need.mk rfl ?_ | refine Need.mk ⟨rfl, Nat.le_of_ble_eq_true rfl⟩ ?_ | refine nb_ ?_ | refine Need.fin ?_ | refine Need.mk ?_ ?_ | refine Ix.strsF rfl ?_ | refine Ix.strs rfl ?_ ?_ | refine Cut.strs rfl ?_ ?_ | refine Ix.mapF (fun _ => rfl) ?_ | refine Ix.map (fun _ => rfl) ?_ ?_ | refine Cut.map (fun _ => rfl) ?_ ?_ | refine Fork.yes (by assumption) ?_ | refine Fork.no (by assumption) ?_ | refine Fork.decYes (by omega) ?_ | refine Fork.decNo (by omega) ?_ | refine Fork.dec (fun _ => ?_) (fun _ => ?_) | refine Fork.bne (fun _ => ?_) (fun _ => ?_) | refine Fork.beq (fun _ => ?_) (fun _ => ?_) | refine Fork.seq (fun _ => ?_) (fun _ => ?_) | refine Fork.sne (fun _ => ?_) (fun _ => ?_) | refine Fork.neg (fun _ => ?_) (fun _ => ?_) | refine Fork.mk (fun _ => ?_) (fun _ => ?_) | refine HAlt.mk ?_ ?_ | apply HJoin.mk3 | exact HEnd.mk rfl rfl rfl | refine HEnd.mk ?_ ?_ ?_ | refine Round.mk ?_ | refine NilQ.mk (fun b hb => ?_) | refine forceK_of ?_ | refine forceBx_of ?_ | refine unG_old ?_ | refine unG_gv ?_ | refine Lit.read rfl ?_ | refine LitO.own rfl ?_ | refine FinVal.keep ?_ | refine FinAgg.keep ?_ | refine Final.mk rfl rfl | refine Final.mk ?_ rfl | refine Final.mk ?_ ?_ | refine FinalT.mk ?_ ?_ | refine FinalI.mk ?_ | refine FinalC.allA ?_)
    | refine AV.bool_congr ?_ | refine AV.int_congr ?_ | refine AV.str_congr ?_ | refine AV.list_congr ?_ | with_reducible rfl | refine fr1 ?_ | refine fr2 ?_ ?_
  refine ALoop.mk Nat (fun i => ⟨[(0, .list none (rows Ty.int l)), (3, .bsl 0 l.length), (4, .val (.int .i64 i))], [.cells (.row 3 1) (part [.val (.int .i64 0)] (rows Ty.int l) i)], []⟩) (fun i => i ≤ l.length) (fun i => l.length - i) ⟨0, Nat.zero_le _, ?_⟩ (fun i hi => ?_)
  · repeat' first
      | exact trivial | refine wl_ ?_ ?_ ?_ ?_ | refine wr_ ?_ ?_ ?_ ?_ | refine Weak.mk ?_ ?_ ?_ ?_ ?_ | refine And.intro ?_ ?_ | with_reducible rfl | exact ble_ | refine fr1 ?_ | refine fr2 ?_ ?_ | refine AV.int_congr ?_ | refine AV.bool_congr ?_ | refine AV.str_congr ?_ | refine AV.list_congr ?_ | refine AV.bsl_congr ?_ ?_ | (apply rfl)
    · simp
    · simp only [List.nil_append, List.length_cons, List.length_nil, List.take_succ_cons, List.take_zero]
      rw [part_made (xs := rows Ty.int l) (sz := 1) rfl (by decide) (by simp)]; rfl
  repeat' first
    | contradiction | exact trivial
    | (conv => whnf
       first | refine Need.mk (fun h => h) ?_ | refine Need.mk rfl ?_ | refine Need.mk ⟨rfl, Nat.le_of_ble_eq_true rfl⟩ ?_ | refine nb_ ?_ | refine Need.fin ?_ | refine Need.mk ?_ ?_ | refine Ix.strsF rfl ?_ | refine Ix.strs rfl ?_ ?_ | refine Cut.strs rfl ?_ ?_ | refine Ix.mapF (fun _ => rfl) ?_ | refine Ix.map (fun _ => rfl) ?_ ?_ | refine Cut.map (fun _ => rfl) ?_ ?_ | refine Fork.yes (by assumption) ?_ | refine Fork.no (by assumption) ?_ | refine Fork.decYes (by omega) ?_ | refine Fork.decNo (by omega) ?_ | refine Fork.dec (fun _ => ?_) (fun _ => ?_) | refine Fork.bne (fun _ => ?_) (fun _ => ?_) | refine Fork.beq (fun _ => ?_) (fun _ => ?_) | refine Fork.seq (fun _ => ?_) (fun _ => ?_) | refine Fork.sne (fun _ => ?_) (fun _ => ?_) | refine Fork.neg (fun _ => ?_) (fun _ => ?_) | refine Fork.mk (fun _ => ?_) (fun _ => ?_) | refine HAlt.mk ?_ ?_ | apply HJoin.mk3 | exact HEnd.mk rfl rfl rfl | refine HEnd.mk ?_ ?_ ?_ | refine Round.mk ?_ | refine NilQ.mk (fun b hb => ?_) | refine forceK_of ?_ | refine forceBx_of ?_ | refine unG_old ?_ | refine unG_gv ?_ | refine Lit.read rfl ?_ | refine LitO.own rfl ?_ | refine FinVal.keep ?_ | refine FinAgg.keep ?_ | refine Final.mk rfl rfl | refine Final.mk ?_ rfl | refine Final.mk ?_ ?_ | refine FinalT.mk ?_ ?_ | refine FinalI.mk ?_ | refine FinalC.allA ?_)
    | refine AV.bool_congr ?_ | refine AV.int_congr ?_ | refine AV.str_congr ?_ | refine AV.list_congr ?_ | with_reducible rfl | refine fr1 ?_ | refine fr2 ?_ ?_
  · rename_i h
    rw [length_rows] at h
    rw [part_len (sz := 1) rfl hsz (by simp; exact hi), Int.toNat_natCast, length_rows]
    exact ⟨rfl, by omega⟩
  · rename_i h
    rw [length_rows] at h
    refine ⟨i + 1, by omega, ?_, by omega⟩
    repeat' first
      | exact trivial | refine wl_ ?_ ?_ ?_ ?_ | refine wr_ ?_ ?_ ?_ ?_ | refine Weak.mk ?_ ?_ ?_ ?_ ?_ | refine And.intro ?_ ?_ | with_reducible rfl | exact ble_ | refine fr1 ?_ | refine fr2 ?_ ?_ | refine AV.int_congr ?_ | refine AV.bool_congr ?_ | refine AV.str_congr ?_ | refine AV.list_congr ?_ | refine AV.bsl_congr ?_ ?_ | (apply rfl)
    · rw [wrap64 (by omega) (by omega)]; rfl
    · have hg : (rows Ty.int l)[i]? = some (oldL (Ty.int.q (l.getD i default))) := by rw [rows, oldLL_eq, List.getElem?_map, List.getElem?_map, ints_get (by omega), oldL_eq]; rfl
      have := part_set (z := [.val (.int .i64 0)]) (sz := 1) rfl hsz hg
      simp only [List.set_cons_zero, List.take_succ_cons, List.take_zero, List.length_cons, List.length_nil, Int.toNat_natCast]
      exact congrArg (fun c => [ABox.cells (.row 3 1) c]) this
  · rename_i h
    rw [length_rows] at h
    conv => whnf
    have : i = l.length := by omega
    subst this
    have hall := part_all [.val (.int .i64 0)] (rows Ty.int l)
    rw [length_rows] at hall
    refine FreezeD.flat (Freeze.mk (rows Ty.int l) _ 3 1 rfl hall (length_rows _ _) hsz (fun c hc => ?_) ?_)
    · rw [hall, ← rowsP_tks Ty.int (fun _ => rfl) (fun _ => rfl)] at hc; exact tks_nr Ty.int l 0 c hc
    · exact Final.mk rfl rfl
theorem szIntS.ret (l : List Int) (a : Int) (h0 : 0 ≤ a) (ha : a ≤ 1048576) (hl : l.length ≤ 9223372036854775807) :
    szIntS.Ret [.list none (rows Ty.int l), .val (.int .i64 a)] (.val (.int .i64 (left a l.length))) [] := by
  refine szIntS.ir.of rfl ?_
  have hw : IntKind.i64.wrap (a - ((rows Ty.int l).length : Int)) = a - l.length := by rw [length_rows]; exact wrap64 (by omega) (by omega)
  repeat' first
    | contradiction | exact trivial
    | (conv => whnf
       first | refine Need.mk (fun h => h) ?_ | refine Need.mk rfl ?_ | refine Need.mk ⟨rfl, Nat.le_of_ble_eq_true rfl⟩ ?_ | refine nb_ ?_ | refine Need.fin ?_ | refine Need.mk ?_ ?_ | refine Ix.strsF rfl ?_ | refine Ix.strs rfl ?_ ?_ | refine Cut.strs rfl ?_ ?_ | refine Ix.mapF (fun _ => rfl) ?_ | refine Ix.map (fun _ => rfl) ?_ ?_ | refine Cut.map (fun _ => rfl) ?_ ?_ | refine Fork.yes (by assumption) ?_ | refine Fork.no (by assumption) ?_ | refine Fork.decYes (by omega) ?_ | refine Fork.decNo (by omega) ?_ | refine Fork.dec (fun _ => ?_) (fun _ => ?_) | refine Fork.bne (fun _ => ?_) (fun _ => ?_) | refine Fork.beq (fun _ => ?_) (fun _ => ?_) | refine Fork.seq (fun _ => ?_) (fun _ => ?_) | refine Fork.sne (fun _ => ?_) (fun _ => ?_) | refine Fork.neg (fun _ => ?_) (fun _ => ?_) | refine Fork.mk (fun _ => ?_) (fun _ => ?_) | refine HAlt.mk ?_ ?_ | apply HJoin.mk3 | exact HEnd.mk rfl rfl rfl | refine HEnd.mk ?_ ?_ ?_ | refine Round.mk ?_ | refine NilQ.mk (fun b hb => ?_) | refine forceK_of ?_ | refine forceBx_of ?_ | refine unG_old ?_ | refine unG_gv ?_ | refine Lit.read rfl ?_ | refine LitO.own rfl ?_ | refine FinVal.keep ?_ | refine FinAgg.keep ?_ | refine Final.mk rfl rfl | refine Final.mk ?_ rfl | refine Final.mk ?_ ?_ | refine FinalT.mk ?_ ?_ | refine FinalI.mk ?_ | refine FinalC.allA ?_)
    | refine AV.bool_congr ?_ | refine AV.int_congr ?_ | refine AV.str_congr ?_ | refine AV.list_congr ?_ | with_reducible rfl | refine fr1 ?_ | refine fr2 ?_ ?_
  all_goals rename_i h
  all_goals rw [hw] at h
  · rw [left, if_pos (by omega)]
  · rw [hw, left, if_neg (by omega)]
theorem eqIntS.big (l m : List Int) (h : tInts.size l ≤ 1099511627775) : eqIntS.Ret [.list none (rows Ty.int l), .list none (rows Ty.int m)] (.val (.bool (decide (l = m)))) [] := by
  refine eqIntS.ir.of rfl ?_
  rw [← szI_eq] at h
  repeat' first
    | (conv => whnf
       first | refine Need.mk rfl ?_ | refine Fork.bne (fun _ => ?_) (fun _ => ?_) | refine LitO.own rfl ?_ | refine FinVal.keep ?_ | refine Final.mk ?_ rfl)
    | refine AV.bool_congr ?_
  · rename_i h
    rw [length_rows, length_rows] at h
    have h3 : ¬ l = m := fun e => h (by rw [e])
    simp [h3]
  rename_i h
  rw [length_rows, length_rows] at h
  have h : l.length = m.length := by omega
  skip
  refine ALoop.mk Nat (fun i => ⟨[(0, .list none (rows Ty.int l)), (1, .list none (rows Ty.int m)), (5, .val (.int .i64 i))], [], []⟩) (fun i => i ≤ l.length ∧ l.take i = m.take i) (fun i => l.length - i) ⟨0, ⟨Nat.zero_le _, rfl⟩, ?_⟩ (fun i hi => ?_)
  · repeat' first
      | exact trivial | refine wl_ ?_ ?_ ?_ ?_ | refine And.intro ?_ ?_ | with_reducible rfl | exact ble_ | refine AV.int_congr ?_ | refine AV.list_congr ?_ | (apply rfl)
  repeat' first
    | (conv => whnf
       first | refine Need.mk rfl ?_ | refine Ix.mapF (fun _ => rfl) ?_ | refine Fork.dec (fun _ => ?_) (fun _ => ?_) | refine Fork.bne (fun _ => ?_) (fun _ => ?_) | refine Round.mk ?_ | refine LitO.own rfl ?_ | refine FinVal.keep ?_ | refine Final.mk ?_ rfl)
    | refine AV.bool_congr ?_
  · rename_i h1 h2
    have h3 : ¬ l = m := fun e => h2 (by rw [e])
    simp [h3]
  · rename_i h1 h2
    rw [length_rows] at h1
    refine ⟨i + 1, ⟨by omega, ?_⟩, ?_, by omega⟩
    · rw [take_succ' default (by omega), take_succ' (l := m) default (by omega), hi.2]
      rw [Int.toNat_natCast] at h2
      have h2' : l.getD i default = m.getD i default := h2
      rw [h2']
    · repeat' first
        | exact trivial | refine wl_ ?_ ?_ ?_ ?_ | refine And.intro ?_ ?_ | with_reducible rfl | exact ble_ | refine AV.int_congr ?_ | refine AV.list_congr ?_ | (apply rfl)
      rw [wrap64 (by omega) (by omega)]; rfl
  · rename_i h1
    rw [length_rows] at h1
    have h2 := hi.2
    rw [List.take_of_length_le (by omega), List.take_of_length_le (by omega)] at h2
    simp [h2]
end Go.Proofs.YtiloafmpienmhaaGreat
