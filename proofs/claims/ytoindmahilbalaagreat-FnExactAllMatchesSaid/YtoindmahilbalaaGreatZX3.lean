/-
  What stands below some laws' proofs, part 3: contracts of functions, by an evaluator.
-/
import Derived.Test.YtoindmahilbalaaGreatZX2
namespace Go.Proofs.YtoindmahilbalaaGreat
open Abs
def sIsPattern.code : ACode := (q_ (r_ [s 1 (.box (t 0)), s 2 mf_]) (q_ (q_ (r_ [s 3 (.mv (i_ 0))]) (.block 0 (.loop (q_ (q_ (r_ [v_ 4 3, s 5 (f_ 1 1), s 6 (l_ 5), s 7 (.len false (t 6)), s 8 (.bin .lss (t 4) (t 7))]) (.cond (t 8) .skip (.exit 0))) (q_ (.block 1 (q_ (r_ [s 11 (f_ 1 1), s 12 (l_ 11), v_ 13 3, s 14 (.iadr 1 (t 12) (t 13)), s 15 (l_ 14), s 16 (.call 123 [t 15]), s 17 (.not (t 16))]) (.cond (t 17) (q_ (r_ [s 2 mf_]) .ret) .skip))) (r_ [v_ 9 3, s 10 (.bin .add (t 9) (i_ 1)), v_ 3 10])))))) (q_ (r_ [s 18 (f_ 0 1), s 19 (l_ 18), s 20 (.call 81 [t 19]), v_ 21 20, g 21 true 22 (f_ 1 1), g 21 true 23 (l_ 22), g 21 true 24 (.len false (t 23)), g 21 true 25 (.bin .leq (t 24) (i_ 3)), s 26 (.and (t 21) (t 25)), v_ 2 26]) .ret)))
theorem sIsPattern.ir : IrAt Tryz.prog 122 sIsPattern.code [0, 1, 2, 3] [.tmp 2] Tryz.f122.ntmps := ir_ Tryz.func122
abbrev sIsPattern.Ret (args : List AV) (r : AV) (frs : Fr) : Prop := Abs.Ret true Tryz.prog 122 args r frs
def pIsPattern.code : ACode := (q_ (r_ [s 1 (.box (t 0)), s 2 mf_]) (q_ (r_ [s 3 (f_ 0 1), s 4 (l_ 3), s 5 (f_ 1 1), s 6 (l_ 5), s 7 (.call 146 [t 4, t 6, (.func 197)]), v_ 2 7]) .ret))
theorem pIsPattern.ir : IrAt Tryz.prog 168 pIsPattern.code [0, 1, 2] [.tmp 2] Tryz.f168.ntmps := ir_ Tryz.func168
abbrev pIsPattern.Ret (args : List AV) (r : AV) (frs : Fr) : Prop := Abs.Ret true Tryz.prog 168 args r frs
def sVarsOf.code : ACode := (q_ (r_ [s 1 (.box (t 0)), s 2 (.mv (.const (.slice none 0 0)))]) (q_ (r_ [s 5 (.bslice 9 1 true []), v_ 3 5]) (q_ (q_ (r_ [s 4 (.mv (i_ 0))]) (.block 0 (.loop (q_ (q_ (r_ [v_ 6 4, s 7 (f_ 1 1), s 8 (l_ 7), s 9 (.len false (t 8)), s 10 (.bin .lss (t 6) (t 9))]) (.cond (t 10) .skip (.exit 0))) (q_ (.block 1 (q_ (r_ [s 13 (f_ 1 1), s 14 (l_ 13), v_ 15 4, s 16 (.iadr 1 (t 14) (t 15)), s 17 (l_ 16), s 18 (.call 124 [t 17])]) (.cond (t 18) (r_ [v_ 19 3, s 20 (f_ 1 1), s 21 (l_ 20), v_ 22 4, s 23 (.iadr 1 (t 21) (t 22)), s 24 (l_ 23), s 25 (.call 121 [t 19, t 24]), v_ 3 25]) .skip))) (r_ [v_ 11 4, s 12 (.bin .add (t 11) (i_ 1)), v_ 4 12])))))) (q_ (r_ [v_ 26 3, v_ 2 26]) .ret))))
theorem sVarsOf.ir : IrAt Tryz.prog 89 sVarsOf.code [0, 1, 2, 3, 4] [.tmp 2] Tryz.f89.ntmps := ir_ Tryz.func89
abbrev sVarsOf.Own (args : List AV) (x : Tr) : Prop := Abs.Own true Tryz.prog 89 args x
abbrev sVarsOf.Ret (args : List AV) (r : AV) (frs : Fr) : Prop := Abs.Ret true Tryz.prog 89 args r frs
def pVarsOf.code : ACode := (q_ (r_ [s 1 (.box (t 0)), s 2 (.mv (.const (.slice none 0 0)))]) (q_ (r_ [s 3 (f_ 1 1), s 4 (l_ 3), s 5 (.call 177 [t 4]), v_ 2 5]) .ret))
theorem pVarsOf.ir : IrAt Tryz.prog 143 pVarsOf.code [0, 1, 2] [.tmp 2] Tryz.f143.ntmps := ir_ Tryz.func143
abbrev pVarsOf.Own (args : List AV) (x : Tr) : Prop := Abs.Own true Tryz.prog 143 args x
abbrev pVarsOf.Ret (args : List AV) (r : AV) (frs : Fr) : Prop := Abs.Ret true Tryz.prog 143 args r frs
def sIsBinding.code : ACode := (q_ (r_ [s 2 mf_]) (q_ (q_ (r_ [s 3 (.mv (i_ 0))]) (.block 0 (.loop (q_ (q_ (r_ [v_ 4 3, v_ 5 0, s 6 (.len false (t 5)), s 7 (.bin .lss (t 4) (t 6))]) (.cond (t 7) .skip (.exit 0))) (q_ (.block 1 (q_ (.region true [v_ 10 0, v_ 11 3, s 12 (.iadr 2 (t 10) (t 11)), s 13 (f_ 0 12), s 14 (l_ 13), s 15 (.call 124 [t 14]), s 16 (.not (t 15)), v_ 17 16, g 17 false 18 (.mv (t 0)), g 17 false 19 (.mv (t 3)), g 17 false 20 (.iadr 2 (t 18) (t 19)), g 17 false 21 (f_ 1 20), g 17 false 22 (l_ 21), g 17 false 23 (.call 120 [t 22]), g 17 false 24 (.not (t 23)), s 25 (.or (t 17) (t 24)), v_ 26 25, g 26 false 27 (.mv (t 3)), g 26 false 28 (.bin .gtr (t 27) (i_ 0)), g 26 false 29 (.mv (t 28)), g 29 true 30 (.mv (t 0)), g 29 true 31 (.mv (t 3)), g 29 true 32 (.bin .sub (t 31) (i_ 1)), g 29 true 33 (.iadr 2 (t 30) (t 32)), g 29 true 34 (f_ 0 33), g 29 true 35 (l_ 34), g 29 true 36 (.mv (t 0)), g 29 true 37 (.mv (t 3)), g 29 true 38 (.iadr 2 (t 36) (t 37)), g 29 true 39 (f_ 0 38), g 29 true 40 (l_ 39), g 29 true 41 (.bin .geq (t 35) (t 40)), g 26 false 42 (.and (t 29) (t 41)), s 43 (.or (t 26) (t 42))]) (.cond (t 43) (q_ (r_ [s 2 mf_]) .ret) .skip))) (r_ [v_ 8 3, s 9 (.bin .add (t 8) (i_ 1)), v_ 3 9])))))) (q_ (r_ [v_ 44 0, s 45 (.len false (t 44)), s 46 (.bin .leq (t 45) (i_ 6)), v_ 2 46]) .ret)))
theorem sIsBinding.ir : IrAt Tryz.prog 161 sIsBinding.code [0, 2, 3] [.tmp 2] Tryz.f161.ntmps := ir_ Tryz.func161
abbrev sIsBinding.Ret (args : List AV) (r : AV) (frs : Fr) : Prop := Abs.Ret true Tryz.prog 161 args r frs
def pIsBinding.code : ACode := (q_ (r_ [s 2 mf_]) (q_ (q_ (r_ [v_ 5 0, s 6 (.len false (t 5)), s 7 (.bin .gtr (t 6) (i_ 6))]) (.cond (t 7) (q_ (r_ [s 2 mf_]) .ret) .skip)) (q_ (q_ (r_ [v_ 8 0, s 9 (.len false (t 8)), s 10 (.mv (i_ 0))]) (.block 0 (.loop (q_ (r_ [s 11 (.bin .lss (t 10) (t 9))]) (q_ (.cond (t 11) .skip (.exit 0)) (q_ (.block 1 (q_ (r_ [v_ 12 10, s 13 (.iadr 2 (t 8) (t 10)), s 14 (a_ 2 13), s 4 (.alloc [(.string (.mk (.mk []))), (.string (.mk (.mk [])))]), v_ 3 12, ⟨none, none, (.store 2 (t 4) (t 14))⟩]) (q_ (.region true [s 15 (f_ 0 4), s 16 (l_ 15), s 17 (.call 201 [t 16]), s 18 (.not (t 17)), v_ 19 18, g 19 false 20 (f_ 1 4), g 19 false 21 (l_ 20), g 19 false 22 (.call 133 [t 21]), g 19 false 23 (.not (t 22)), s 24 (.or (t 19) (t 23)), v_ 25 24, g 25 false 26 (.mv (t 3)), g 25 false 27 (.bin .gtr (t 26) (i_ 0)), g 25 false 28 (.mv (t 27)), g 28 true 29 (.mv (t 0)), g 28 true 30 (.mv (t 3)), g 28 true 31 (.bin .sub (t 30) (i_ 1)), g 28 true 32 (.iadr 2 (t 29) (t 31)), g 28 true 33 (f_ 0 32), g 28 true 34 (l_ 33), g 28 true 35 (f_ 0 4), g 28 true 36 (l_ 35), g 28 true 37 (.bin .geq (t 34) (t 36)), g 25 false 38 (.and (t 28) (t 37)), s 39 (.or (t 25) (t 38))]) (.cond (t 39) (q_ (r_ [s 2 mf_]) .ret) .skip)))) (r_ [s 40 (.bin .add (t 10) (i_ 1)), v_ 10 40]))))))) (q_ (r_ [s 2 mt_]) .ret))))
theorem pIsBinding.ir : IrAt Tryz.prog 185 pIsBinding.code [0, 2, 3, 4, 8, 9, 10, 11] [.tmp 2] Tryz.f185.ntmps := ir_ Tryz.func185
abbrev pIsBinding.Ret (args : List AV) (r : AV) (frs : Fr) : Prop := Abs.Ret true Tryz.prog 185 args r frs
def sValueOf.code : ACode := (q_ (r_ [s 4 (.mv (.const (.string (.mk #[])))), s 5 mf_]) (q_ (q_ (r_ [v_ 7 1, s 8 (.call 120 [t 7])]) (.cond (t 8) (q_ (r_ [v_ 9 1, v_ 4 9, s 5 mt_]) .ret) .skip)) (q_ (q_ (r_ [s 6 (.mv (i_ 0))]) (.block 0 (.loop (q_ (q_ (r_ [v_ 10 6, v_ 11 0, s 12 (.len false (t 11)), s 13 (.bin .lss (t 10) (t 12))]) (.cond (t 13) .skip (.exit 0))) (q_ (.block 1 (q_ (r_ [v_ 16 0, v_ 17 6, s 18 (.iadr 2 (t 16) (t 17)), s 19 (f_ 0 18), s 20 (l_ 19), v_ 21 1, s 22 (.bin .eql (t 20) (t 21)), v_ 23 22, g 23 true 24 (.mv (t 1)), g 23 true 25 (.call 124 [t 24]), s 26 (.and (t 23) (t 25))]) (.cond (t 26) (q_ (r_ [v_ 27 0, v_ 28 6, s 29 (.iadr 2 (t 27) (t 28)), s 30 (f_ 1 29), s 31 (l_ 30), v_ 4 31, s 5 mt_]) .ret) .skip))) (r_ [v_ 14 6, s 15 (.bin .add (t 14) (i_ 1)), v_ 6 15])))))) (q_ (r_ [s 4 (.mv (.const (.string (.mk #[])))), s 5 mf_]) .ret))))
theorem sValueOf.ir : IrAt Tryz.prog 194 sValueOf.code [0, 1, 4, 5, 6] [.tmp 4, .tmp 5] Tryz.f194.ntmps := ir_ Tryz.func194
abbrev sValueOf.Ret (args : List AV) (r : AV) (frs : Fr) : Prop := Abs.Ret true Tryz.prog 194 args r frs
def pValueOf.code : ACode := (q_ (r_ [s 4 (.mv (.const (.string (.mk #[])))), s 5 mf_]) (q_ (q_ (r_ [v_ 8 1, s 9 (.call 133 [t 8])]) (.cond (t 9) (q_ (r_ [v_ 10 1, v_ 4 10, s 5 mt_]) .ret) .skip)) (q_ (q_ (r_ [v_ 11 1, s 12 (.call 201 [t 11]), s 13 (.not (t 12))]) (.cond (t 13) (q_ (r_ [s 4 (.mv (.const (.string (.mk #[])))), s 5 mf_]) .ret) .skip)) (q_ (q_ (r_ [v_ 14 0, s 15 (.len false (t 14)), s 16 (.mv (i_ 0))]) (.block 0 (.loop (q_ (r_ [s 17 (.bin .lss (t 16) (t 15))]) (q_ (.cond (t 17) .skip (.exit 0)) (q_ (.block 1 (q_ (r_ [s 18 (.iadr 2 (t 14) (t 16)), s 19 (a_ 2 18), s 7 (.alloc [(.string (.mk (.mk []))), (.string (.mk (.mk [])))]), ⟨none, none, (.store 2 (t 7) (t 19))⟩]) (q_ (r_ [s 20 (f_ 0 7), s 21 (l_ 20), v_ 22 1, s 23 (.bin .eql (t 21) (t 22))]) (.cond (t 23) (q_ (r_ [s 24 (f_ 1 7), s 25 (l_ 24), v_ 4 25, s 5 mt_]) .ret) .skip)))) (r_ [s 26 (.bin .add (t 16) (i_ 1)), v_ 16 26]))))))) (q_ (r_ [s 4 (.mv (.const (.string (.mk #[])))), s 5 mf_]) .ret)))))
theorem pValueOf.ir : IrAt Tryz.prog 206 pValueOf.code [0, 1, 4, 5, 7, 14, 15, 16, 17] [.tmp 4, .tmp 5] Tryz.f206.ntmps := ir_ Tryz.func206
abbrev pValueOf.Ret (args : List AV) (r : AV) (frs : Fr) : Prop := Abs.Ret true Tryz.prog 206 args r frs
def sExtend.code : ACode := (q_ (r_ [s 6 (.mv (.const (.slice none 0 0))), s 7 mf_]) (q_ (q_ (r_ [v_ 10 0, s 11 (.call 161 [t 10]), s 12 (.not (t 11)), v_ 13 12, g 13 false 14 (.mv (t 1)), g 13 false 15 (.call 124 [t 14]), g 13 false 16 (.not (t 15)), s 17 (.or (t 13) (t 16)), v_ 18 17, g 18 false 19 (.mv (t 2)), g 18 false 20 (.call 120 [t 19]), g 18 false 21 (.not (t 20)), s 22 (.or (t 18) (t 21))]) (.cond (t 22) (q_ (r_ [s 23 (.bslice 141 2 true []), v_ 6 23, s 7 mf_]) .ret) .skip)) (q_ (r_ [v_ 25 0, v_ 26 1, s 27 (.call 194 [t 25, t 26]), v_ 24 27, s 28 (.extract (t 24) 0), s 29 (.extract (t 24) 1), v_ 8 28, v_ 9 29]) (q_ (q_ (r_ [v_ 30 9, v_ 31 30, g 31 true 32 (.mv (t 8)), g 31 true 33 (.mv (t 2)), g 31 true 34 (.bin .eql (t 32) (t 33)), s 35 (.and (t 31) (t 34))]) (.cond (t 35) (q_ (r_ [v_ 36 0, s 37 (.call 164 [t 36]), v_ 6 37, s 7 mt_]) .ret) .skip)) (q_ (q_ (r_ [v_ 38 9, v_ 39 38, g 39 false 40 (.mv (t 0)), g 39 false 41 (.len false (t 40)), g 39 false 42 (.bin .eql (t 41) (i_ 6)), s 43 (.or (t 39) (t 42))]) (.cond (t 43) (q_ (r_ [s 44 (.bslice 141 2 true []), v_ 6 44, s 7 mf_]) .ret) .skip)) (q_ (r_ [v_ 45 0, v_ 46 1, v_ 47 2, s 48 (.call 196 [t 45, t 46, t 47]), v_ 6 48, s 7 mt_]) .ret))))))
theorem sExtend.ir : IrAt Tryz.prog 165 sExtend.code [0, 1, 2, 6, 7, 8, 9] [.tmp 6, .tmp 7] Tryz.f165.ntmps := ir_ Tryz.func165
abbrev sExtend.Ret (args : List AV) (r : AV) (frs : Fr) : Prop := Abs.Ret true Tryz.prog 165 args r frs
def pSamePattern.code : ACode := (q_ (r_ [s 2 (.box (t 0)), s 3 (.box (t 1)), s 4 mf_]) (q_ (r_ [s 5 (f_ 0 2), s 6 (l_ 5), s 7 (f_ 0 3), s 8 (l_ 7), s 9 (.bin .eql (t 6) (t 8)), v_ 10 9, g 10 true 11 (f_ 1 2), g 10 true 12 (l_ 11), g 10 true 13 (f_ 1 3), g 10 true 14 (l_ 13), g 10 true 15 (.call 192 [t 12, t 14]), s 16 (.and (t 10) (t 15)), v_ 4 16]) .ret))
theorem pSamePattern.ir : IrAt Tryz.prog 170 pSamePattern.code [0, 1, 2, 3, 4] [.tmp 4] Tryz.f170.ntmps := ir_ Tryz.func170
abbrev pSamePattern.Ret (args : List AV) (r : AV) (frs : Fr) : Prop := Abs.Ret true Tryz.prog 170 args r frs
def sMatchFact.code : ACode := (q_ (r_ [s 3 (.box (t 0)), s 4 (.box (t 1)), s 6 (.mv (.const (.slice none 0 0))), s 7 mf_]) (q_ (q_ (r_ [s 12 (a_ 2 3), s 13 (.call 122 [t 12]), s 14 (.not (t 13)), v_ 15 14, g 15 false 16 (a_ 2 4), g 15 false 17 (.call 91 [t 16]), g 15 false 18 (.not (t 17)), s 19 (.or (t 15) (t 18)), v_ 20 19, g 20 false 21 (.mv (t 2)), g 20 false 22 (.call 161 [t 21]), g 20 false 23 (.not (t 22)), s 24 (.or (t 20) (t 23)), v_ 25 24, g 25 false 26 (f_ 0 3), g 25 false 27 (l_ 26), g 25 false 28 (f_ 0 4), g 25 false 29 (l_ 28), g 25 false 30 (.bin .neq (t 27) (t 29)), s 31 (.or (t 25) (t 30)), v_ 32 31, g 32 false 33 (f_ 1 3), g 32 false 34 (l_ 33), g 32 false 35 (.len false (t 34)), g 32 false 36 (f_ 1 4), g 32 false 37 (l_ 36), g 32 false 38 (.len false (t 37)), g 32 false 39 (.bin .neq (t 35) (t 38)), s 40 (.or (t 32) (t 39))]) (.cond (t 40) (q_ (r_ [s 41 (.bslice 141 2 true []), v_ 6 41, s 7 mf_]) .ret) .skip)) (q_ (r_ [v_ 42 2, s 43 (.call 164 [t 42]), v_ 8 43]) (q_ (q_ (r_ [s 9 (.mv (i_ 0))]) (.block 0 (.loop (q_ (q_ (r_ [v_ 44 9, s 45 (f_ 1 3), s 46 (l_ 45), s 47 (.len false (t 46)), s 48 (.bin .lss (t 44) (t 47))]) (.cond (t 48) .skip (.exit 0))) (q_ (.block 1 (q_ (q_ (r_ [s 51 (f_ 1 3), s 52 (l_ 51), v_ 53 9, s 54 (.iadr 1 (t 52) (t 53)), s 55 (l_ 54), s 56 (.call 120 [t 55])]) (.cond (t 56) (q_ (q_ (.region true [s 57 (f_ 1 3), s 58 (l_ 57), v_ 59 9, s 60 (.iadr 1 (t 58) (t 59)), s 61 (l_ 60), s 62 (f_ 1 4), s 63 (l_ 62), v_ 64 9, s 65 (.iadr 1 (t 63) (t 64)), s 66 (l_ 65), s 67 (.bin .neq (t 61) (t 66))]) (.cond (t 67) (q_ (r_ [s 68 (.bslice 141 2 true []), v_ 6 68, s 7 mf_]) .ret) .skip)) (.exit 1)) .skip)) (q_ (.held [v_ 70 8, s 71 (f_ 1 3), s 72 (l_ 71), v_ 73 9, s 74 (.iadr 1 (t 72) (t 73)), s 75 (l_ 74), s 76 (f_ 1 4), s 77 (l_ 76), v_ 78 9, s 79 (.iadr 1 (t 77) (t 78)), s 80 (l_ 79), s 81 (.call 165 [t 70, t 75, t 80]), v_ 69 81, s 82 (.extract (t 69) 0), s 83 (.extract (t 69) 1), v_ 10 82] [v_ 11 83]) (q_ (q_ (r_ [v_ 84 11, s 85 (.not (t 84))]) (.cond (t 85) (q_ (r_ [s 86 (.bslice 141 2 true []), v_ 6 86, s 7 mf_]) .ret) .skip)) (r_ [v_ 87 10, v_ 8 87]))))) (r_ [v_ 49 9, s 50 (.bin .add (t 49) (i_ 1)), v_ 9 50])))))) (q_ (r_ [v_ 88 8, v_ 6 88, s 7 mt_]) .ret)))))
theorem sMatchFact.ir : IrAt Tryz.prog 129 sMatchFact.code [0, 1, 2, 3, 4, 6, 7, 8, 9, 10, 11] [.tmp 6, .tmp 7] Tryz.f129.ntmps := ir_ Tryz.func129
abbrev sMatchFact.Own (args : List AV) (x : Tr) : Prop := Abs.Own true Tryz.prog 129 args x
abbrev sMatchFact.Ret (args : List AV) (r : AV) (frs : Fr) : Prop := Abs.Ret true Tryz.prog 129 args r frs
def pMatchFact.code : ACode := (q_ (r_ [s 3 (.box (t 0)), s 4 (.box (t 1)), s 6 (.mv (.const (.slice none 0 0))), s 7 mf_]) (q_ (q_ (r_ [s 9 (f_ 0 3), s 10 (l_ 9), s 11 (f_ 0 4), s 12 (l_ 11), s 13 (.bin .neq (t 10) (t 12)), v_ 14 13, g 14 false 15 (a_ 2 3), g 14 false 16 (.call 168 [t 15]), g 14 false 17 (.not (t 16)), s 18 (.or (t 14) (t 17)), v_ 19 18, g 19 false 20 (a_ 2 4), g 19 false 21 (.call 102 [t 20]), g 19 false 22 (.not (t 21)), s 23 (.or (t 19) (t 22)), v_ 24 23, g 24 false 25 (.mv (t 2)), g 24 false 26 (.call 185 [t 25]), g 24 false 27 (.not (t 26)), s 28 (.or (t 24) (t 27))]) (.cond (t 28) (q_ (r_ [s 29 (.bslice 141 2 true []), v_ 6 29, s 7 mf_]) .ret) .skip)) (q_ (r_ [v_ 30 2, s 31 (.call 188 [t 30]), v_ 8 31]) (q_ (q_ (r_ [s 32 (f_ 1 3), s 33 (l_ 32), s 34 (f_ 1 4), s 35 (l_ 34), v_ 36 8, s 37 (.call 189 [t 33, t 35, t 36]), s 38 (.not (t 37)), v_ 39 38, g 39 false 40 (.mv (t 8)), g 39 false 41 (.mlen (t 40)), g 39 false 42 (.bin .gtr (t 41) (i_ 6)), s 43 (.or (t 39) (t 42))]) (.cond (t 43) (q_ (r_ [s 44 (.bslice 141 2 true []), v_ 6 44, s 7 mf_]) .ret) .skip)) (q_ (r_ [v_ 45 8, s 46 (.call 190 [t 45]), v_ 6 46, s 7 mt_]) .ret)))))
theorem pMatchFact.ir : IrAt Tryz.prog 151 pMatchFact.code [0, 1, 2, 3, 4, 6, 7, 8] [.tmp 6, .tmp 7] Tryz.f151.ntmps := ir_ Tryz.func151
abbrev pMatchFact.RetN (args : List AV) (r : AV) (frs : Fr) : Prop := Abs.Ret false Tryz.prog 151 args r frs
def sCopyB.code : ACode := (q_ (r_ [s 2 (.mv (.const (.slice none 0 0)))]) (q_ (r_ [s 3 (.bslice 141 2 true []), v_ 4 0, s 5 (.append 141 2 32 (t 3) (t 4)), v_ 2 5]) .ret))
theorem sCopyB.ir : IrAt Tryz.prog 164 sCopyB.code [0, 2] [.tmp 2] Tryz.f164.ntmps := ir_ Tryz.func164
abbrev sCopyB.Ret (args : List AV) (r : AV) (frs : Fr) : Prop := Abs.Ret true Tryz.prog 164 args r frs
def sSet.code : ACode := (q_ (r_ [s 6 (.mv (.const (.slice none 0 0)))]) (q_ (r_ [s 10 (.bslice 141 2 true []), v_ 7 10]) (q_ (r_ [s 8 mf_]) (q_ (q_ (r_ [s 9 (.mv (i_ 0))]) (.block 0 (.loop (q_ (q_ (r_ [v_ 11 9, v_ 12 0, s 13 (.len false (t 12)), s 14 (.bin .lss (t 11) (t 13))]) (.cond (t 14) .skip (.exit 0))) (q_ (.block 1 (q_ (q_ (r_ [v_ 17 8, s 18 (.not (t 17)), v_ 19 18, g 19 true 20 (.mv (t 0)), g 19 true 21 (.mv (t 9)), g 19 true 22 (.iadr 2 (t 20) (t 21)), g 19 true 23 (f_ 0 22), g 19 true 24 (l_ 23), g 19 true 25 (.mv (t 1)), g 19 true 26 (.bin .gtr (t 24) (t 25)), s 27 (.and (t 19) (t 26))]) (.cond (t 27) (q_ (r_ [v_ 28 7, v_ 29 1, v_ 30 2, s 31 (.build [(.string (.mk (.mk []))), (.string (.mk (.mk [])))] [(0, 1), (1, 1)] [t 29, t 30]), s 32 (.bslice 141 2 false [t 31]), s 33 (.append 141 2 32 (t 28) (t 32)), v_ 7 33]) (r_ [s 8 mt_])) .skip)) (r_ [v_ 34 7, v_ 35 0, v_ 36 9, s 37 (.iadr 2 (t 35) (t 36)), s 38 (a_ 2 37), s 39 (.bslice 141 2 false [t 38]), s 40 (.append 141 2 32 (t 34) (t 39)), v_ 7 40]))) (r_ [v_ 15 9, s 16 (.bin .add (t 15) (i_ 1)), v_ 9 16])))))) (q_ (q_ (r_ [v_ 41 8, s 42 (.not (t 41))]) (.cond (t 42) (r_ [v_ 43 7, v_ 44 1, v_ 45 2, s 46 (.build [(.string (.mk (.mk []))), (.string (.mk (.mk [])))] [(0, 1), (1, 1)] [t 44, t 45]), s 47 (.bslice 141 2 false [t 46]), s 48 (.append 141 2 32 (t 43) (t 47)), v_ 7 48]) .skip)) (q_ (r_ [v_ 49 7, v_ 6 49]) .ret))))))
theorem sSet.ir : IrAt Tryz.prog 196 sSet.code [0, 1, 2, 6, 7, 8, 9] [.tmp 6] Tryz.f196.ntmps := ir_ Tryz.func196
abbrev sSet.Ret (args : List AV) (r : AV) (frs : Fr) : Prop := Abs.Ret true Tryz.prog 196 args r frs
def pisTuple.code : ACode := (q_ (r_ [s 6 mf_]) (q_ (q_ (r_ [v_ 9 0, s 10 (.call 97 [t 9]), s 11 (.not (t 10)), v_ 12 11, g 12 false 13 (.mv (t 1)), g 12 false 14 (.len false (t 13)), g 12 false 15 (.bin .gtr (t 14) (i_ 3)), s 16 (.or (t 12) (t 15))]) (.cond (t 16) (q_ (r_ [s 6 mf_]) .ret) .skip)) (q_ (q_ (r_ [v_ 17 1, s 18 (.len false (t 17)), s 19 (.mv (i_ 0))]) (.block 0 (.loop (q_ (r_ [s 20 (.bin .lss (t 19) (t 18))]) (q_ (.cond (t 20) .skip (.exit 0)) (q_ (.block 1 (q_ (r_ [s 21 (.iadr 1 (t 17) (t 19)), s 22 (l_ 21), v_ 8 22]) (q_ (r_ [v_ 23 2, v_ 24 8, s 25 (.callv (t 23) [t 24]), s 26 (.not (t 25))]) (.cond (t 26) (q_ (r_ [s 6 mf_]) .ret) .skip)))) (r_ [s 27 (.bin .add (t 19) (i_ 1)), v_ 19 27]))))))) (q_ (r_ [s 6 mt_]) .ret))))
theorem pisTuple.ir : IrAt Tryz.prog 146 pisTuple.code [0, 1, 2, 6, 8, 17, 18, 19, 20] [.tmp 6] Tryz.f146.ntmps := ir_ Tryz.func146
abbrev pisTuple.Ret (args : List AV) (r : AV) (frs : Fr) : Prop := Abs.Ret true Tryz.prog 146 args r frs
def pmapOfPairs.code : ACode := (q_ (r_ [s 2 (.mv (.const (.map none)))]) (q_ (r_ [s 6 .mmap, v_ 3 6]) (q_ (q_ (r_ [v_ 7 0, s 8 (.len false (t 7)), s 9 (.mv (i_ 0))]) (.block 0 (.loop (q_ (r_ [s 10 (.bin .lss (t 9) (t 8))]) (q_ (.cond (t 10) .skip (.exit 0)) (q_ (.block 1 (q_ (r_ [s 11 (.iadr 2 (t 7) (t 9)), s 12 (a_ 2 11), s 5 (.alloc [(.string (.mk (.mk []))), (.string (.mk (.mk [])))]), ⟨none, none, (.store 2 (t 5) (t 12))⟩]) (r_ [v_ 13 3, s 14 (f_ 0 5), s 15 (l_ 14), s 16 (f_ 1 5), s 17 (l_ 16), ⟨none, none, (.mput (t 13) (t 15) (t 17))⟩]))) (r_ [s 18 (.bin .add (t 9) (i_ 1)), v_ 9 18]))))))) (q_ (r_ [v_ 19 3, v_ 2 19]) .ret))))
def pmapOfPairs.keep : List Nat := [0, 2, 3, 5, 7, 8, 9, 10]
def pmapOfPairs.res : List RRes := [.tmp 2]
theorem pmapOfPairs.ofL {mo : Bool} {b0 : List ABox} {args : List AV} {Φ : AV → List ABox → Fr → Prop} (hd : noDead b0 = true) (hn : Nat.ble args.length Tryz.f188.ntmps = true) (h : aCode (Kn mo Tryz.prog) pmapOfPairs.keep b0.length pmapOfPairs.code (doneL pmapOfPairs.res Φ) ⟨argEnv 0 args, b0, []⟩) : Abs.Lent mo Tryz.prog 188 b0 args Φ :=
 Abs.Lent.of_ir hd Tryz.func188 rfl (by kernel_rfl) (Nat.le_of_ble_eq_true hn) (by kernel_rfl) (by kernel_rfl) h
abbrev pmapOfPairs.Lent (b0 : List ABox) (args : List AV) (Φ : AV → List ABox → Fr → Prop) : Prop := Abs.Lent true Tryz.prog 188 b0 args Φ
def pturnInto.code : ACode := (q_ (r_ [s 6 mf_]) (q_ (q_ (r_ [v_ 11 0, s 12 (.len false (t 11)), v_ 13 1, s 14 (.len false (t 13)), s 15 (.bin .neq (t 12) (t 14))]) (.cond (t 15) (q_ (r_ [s 6 mf_]) .ret) .skip)) (q_ (q_ (r_ [v_ 16 0, s 17 (.len false (t 16)), s 18 (.mv (i_ 0))]) (.block 0 (.loop (q_ (r_ [s 19 (.bin .lss (t 18) (t 17))]) (q_ (.cond (t 19) .skip (.exit 0)) (q_ (.block 1 (q_ (r_ [v_ 20 18, s 21 (.iadr 1 (t 16) (t 18)), s 22 (l_ 21), v_ 7 20, v_ 8 22]) (q_ (r_ [v_ 24 2, v_ 25 8, s 26 (.lookup true (t 24) (t 25)), v_ 23 26, s 27 (.extract (t 23) 0), s 28 (.extract (t 23) 1), v_ 9 27, v_ 10 28]) (q_ (.block 2 (q_ (r_ [v_ 30 8, s 31 (.call 201 [t 30]), s 32 (.not (t 31)), v_ 29 32]) (.cond (t 29) (r_ [v_ 33 8, v_ 9 33]) (q_ (r_ [v_ 35 10, s 36 (.not (t 35)), v_ 34 36]) (.cond (t 34) (q_ (r_ [v_ 37 1, v_ 38 7, s 39 (.iadr 1 (t 37) (t 38)), s 40 (l_ 39), v_ 9 40]) (r_ [v_ 41 2, v_ 42 8, v_ 43 9, ⟨none, none, (.mput (t 41) (t 42) (t 43))⟩])) .skip))))) (q_ (r_ [v_ 44 9, v_ 45 1, v_ 46 7, s 47 (.iadr 1 (t 45) (t 46)), s 48 (l_ 47), s 49 (.bin .neq (t 44) (t 48))]) (.cond (t 49) (q_ (r_ [s 6 mf_]) .ret) .skip)))))) (r_ [s 50 (.bin .add (t 18) (i_ 1)), v_ 18 50]))))))) (q_ (r_ [s 6 mt_]) .ret))))
def pturnInto.keep : List Nat := [0, 1, 2, 6, 7, 8, 9, 10, 16, 17, 18, 19]
def pturnInto.res : List RRes := [.tmp 6]
theorem pturnInto.ofL {mo : Bool} {b0 : List ABox} {args : List AV} {Φ : AV → List ABox → Fr → Prop} (hd : noDead b0 = true) (hn : Nat.ble args.length Tryz.f189.ntmps = true) (h : aCode (Kn mo Tryz.prog) pturnInto.keep b0.length pturnInto.code (doneL pturnInto.res Φ) ⟨argEnv 0 args, b0, []⟩) : Abs.Lent mo Tryz.prog 189 b0 args Φ :=
 Abs.Lent.of_ir hd Tryz.func189 rfl (by kernel_rfl) (Nat.le_of_ble_eq_true hn) (by kernel_rfl) (by kernel_rfl) h
abbrev pturnInto.Lent (b0 : List ABox) (args : List AV) (Φ : AV → List ABox → Fr → Prop) : Prop := Abs.Lent true Tryz.prog 189 b0 args Φ
def ppairsOfMap.code : ACode := (q_ (r_ [s 2 (.mv (.const (.slice none 0 0)))]) (q_ (r_ [s 6 (.bslice 141 2 true []), v_ 3 6]) (q_ (q_ (r_ [v_ 7 0, s 8 (.call 208 [t 7]), s 9 (.call 207 [t 8]), s 10 (.len false (t 9)), s 11 (.mv (i_ 0))]) (.block 0 (.loop (q_ (r_ [s 12 (.bin .lss (t 11) (t 10))]) (q_ (.cond (t 12) .skip (.exit 0)) (q_ (.block 1 (q_ (r_ [s 13 (.iadr 1 (t 9) (t 11)), s 14 (l_ 13), v_ 5 14]) (r_ [v_ 15 3, v_ 16 5, v_ 17 0, v_ 18 5, s 19 (.lookup false (t 17) (t 18)), s 20 (.build [(.string (.mk (.mk []))), (.string (.mk (.mk [])))] [(0, 1), (1, 1)] [t 16, t 19]), s 21 (.bslice 141 2 false [t 20]), s 22 (.append 141 2 32 (t 15) (t 21)), v_ 3 22]))) (r_ [s 23 (.bin .add (t 11) (i_ 1)), v_ 11 23]))))))) (q_ (r_ [v_ 24 3, v_ 2 24]) .ret))))
def ppairsOfMap.keep : List Nat := [0, 2, 3, 5, 9, 10, 11, 12]
def ppairsOfMap.res : List RRes := [.tmp 2]
theorem ppairsOfMap.ofL {mo : Bool} {b0 : List ABox} {args : List AV} {Φ : AV → List ABox → Fr → Prop} (hd : noDead b0 = true) (hn : Nat.ble args.length Tryz.f190.ntmps = true) (h : aCode (Kn mo Tryz.prog) ppairsOfMap.keep b0.length ppairsOfMap.code (doneL ppairsOfMap.res Φ) ⟨argEnv 0 args, b0, []⟩) : Abs.Lent mo Tryz.prog 190 b0 args Φ :=
 Abs.Lent.of_ir hd Tryz.func190 rfl (by kernel_rfl) (Nat.le_of_ble_eq_true hn) (by kernel_rfl) (by kernel_rfl) h
def sHasText.code : ACode := (q_ (r_ [s 4 mf_]) (q_ (q_ (r_ [s 5 (.mv (i_ 0))]) (.block 0 (.loop (q_ (q_ (r_ [v_ 6 5, v_ 7 0, s 8 (.len false (t 7)), s 9 (.bin .lss (t 6) (t 8))]) (.cond (t 9) .skip (.exit 0))) (q_ (.block 1 (q_ (r_ [v_ 12 0, v_ 13 5, s 14 (.iadr 1 (t 12) (t 13)), s 15 (l_ 14), v_ 16 1, s 17 (.bin .eql (t 15) (t 16))]) (.cond (t 17) (q_ (r_ [s 4 mt_]) .ret) .skip))) (r_ [v_ 10 5, s 11 (.bin .add (t 10) (i_ 1)), v_ 5 11])))))) (q_ (r_ [s 4 mf_]) .ret)))
theorem sHasText.ir : IrAt Tryz.prog 85 sHasText.code [0, 1, 4, 5] [.tmp 4] Tryz.f85.ntmps := ir_ Tryz.func85
abbrev sHasText.Ret (args : List AV) (r : AV) (frs : Fr) : Prop := Abs.Ret true Tryz.prog 85 args r frs
def slContains.code : ACode := (q_ (r_ [s 4 mf_]) (q_ (r_ [v_ 5 0, v_ 6 1, s 7 (.call 200 [t 5, t 6]), s 8 (.bin .geq (t 7) (i_ 0)), v_ 4 8]) .ret))
theorem slContains.ir : IrAt Tryz.prog 175 slContains.code [0, 1, 4] [.tmp 4] Tryz.f175.ntmps := ir_ Tryz.func175
abbrev slContains.Ret (args : List AV) (r : AV) (frs : Fr) : Prop := Abs.Ret true Tryz.prog 175 args r frs
def slIndex.code : ACode := (q_ (r_ [s 4 (.mv (i_ 0))]) (q_ (q_ (r_ [v_ 6 0, s 7 (.len false (t 6)), s 8 (.mv (i_ 0))]) (.block 0 (.loop (q_ (r_ [s 9 (.bin .lss (t 8) (t 7))]) (q_ (.cond (t 9) .skip (.exit 0)) (q_ (.block 1 (q_ (r_ [v_ 10 8, v_ 5 10]) (q_ (r_ [v_ 11 1, v_ 12 0, v_ 13 5, s 14 (.iadr 1 (t 12) (t 13)), s 15 (l_ 14), s 16 (.bin .eql (t 11) (t 15))]) (.cond (t 16) (q_ (r_ [v_ 17 5, v_ 4 17]) .ret) .skip)))) (r_ [s 18 (.bin .add (t 8) (i_ 1)), v_ 8 18]))))))) (q_ (r_ [s 4 (.mv (.const (.int .i64 (-1))))]) .ret)))
theorem slIndex.ir : IrAt Tryz.prog 200 slIndex.code [0, 1, 4, 5, 7, 8, 9] [.tmp 4] Tryz.f200.ntmps := ir_ Tryz.func200
abbrev slIndex.Ret (args : List AV) (r : AV) (frs : Fr) : Prop := Abs.Ret true Tryz.prog 200 args r frs
def slKeys.code : ACode := (q_ (r_ [s 1 (.box (t 0)), s 2 (.mv (.const .nilFunc))]) (q_ (r_ [s 3 (.clo 223 [] [t 1]), v_ 2 3]) .ret))
def slKeys.keep : List Nat := [0, 1, 2]
def slKeys.res : List RRes := [.tmp 2]
theorem slKeys.ofL {mo : Bool} {b0 : List ABox} {args : List AV} {Φ : AV → List ABox → Fr → Prop} (hd : noDead b0 = true) (hn : Nat.ble args.length Tryz.f208.ntmps = true) (h : aCode (Kn mo Tryz.prog) slKeys.keep b0.length slKeys.code (doneL slKeys.res Φ) ⟨argEnv 0 args, b0, []⟩) : Abs.Lent mo Tryz.prog 208 b0 args Φ :=
 Abs.Lent.of_ir hd Tryz.func208 rfl (by kernel_rfl) (Nat.le_of_ble_eq_true hn) (by kernel_rfl) (by kernel_rfl) h
abbrev slKeys.Lent (b0 : List ABox) (args : List AV) (Φ : AV → List ABox → Fr → Prop) : Prop := Abs.Lent true Tryz.prog 208 b0 args Φ
open Abs
def termF (x : Str) : Bool := atomF x || varF x
theorem allQ_no {q : Str → Bool} {x : List Str} {i : Nat} (hi : i < x.length) (h : q (x.getD i []) = false) : x.all q = false := by
 rw [List.all_eq_false]
 refine ⟨x.getD i [], ?_, by rw [h]; simp⟩
 simp [List.getD, hi]
theorem allQ_succ {q : Str → Bool} {x : List Str} {i : Nat} (hi : i < x.length) (h : (x.take i).all q = true) (hc : q (x.getD i []) = true) : (x.take (i + 1)).all q = true := by
 rw [take_succ' [] hi, List.all_append, h]; simpa using hc
def tupF (q : Str → Bool) (f : Fct) : Bool := nameF f.1 && decide ((f.2.length : Int) ≤ 3) && f.2.all q
abbrev isPatF (f : VPattern) : Bool := tupF termF f
theorem pisTuple.ret (q : Str → Bool) (F : Nat) (hq : ∀ s : Str, s.length ≤ 1048576 → Abs.Ret true Tryz.prog F [.str s] (.val (.bool (q s))) []) (r : Str) (l : List Str) (h : r.length + listSize Ty.str l ≤ 1048576) (hl : l.length ≤ 1048576) :
 pisTuple.Ret [.str r, .list none (strs l), .clo F [] []] (.val (.bool (tupF q (r, l)))) [] := by
 refine pisTuple.ir.of rfl ?_
 repeat' first
  | (conv => whnf
     first | refine Need.mk (fun h => h) ?_ | refine Need.mk rfl ?_ | refine Fork.mk (fun _ => ?_) (fun _ => ?_) | refine FinVal.keep ?_ | refine Final.mk ?_ rfl | refine ACall.scalA _ _ (pIsName.ret _ ?_) rfl ?_)
  | refine AV.bool_congr ?_
 ·omega
 ·rename_i h1
  simp only [length_strs] at h1
  unfold tupF
  cases hn : nameF r
  ·simp
  ·rw [hn] at h1
   have : ¬ (l.length : Int) ≤ 3 := by simp at h1; omega
   simp [this]
 rename_i h1
 simp only [length_strs] at h1
 have hn : nameF r = true := by revert h1; cases nameF r <;> simp
 have hl3 : (l.length : Int) ≤ 3 := by rw [hn] at h1; simp at h1; omega
 skip
 refine ALoop.mk Nat (fun i => ⟨[(0, .str r), (1, .list none (strs l)), (2, .clo F [] []), (17, .list none (strs l)), (18, .val (.int .i64 l.length)), (19, .val (.int .i64 i))], [], []⟩) (fun i => i ≤ l.length ∧ (l.take i).all q = true) (fun i => l.length - i) ⟨0, ⟨Nat.zero_le _, rfl⟩, ?_⟩ (fun i hi => ?_)
 ·repeat' first
   | exact trivial | refine wl_ ?_ ?_ ?_ ?_ | refine And.intro ?_ ?_ | with_reducible rfl | exact ble_ | refine AV.int_congr ?_ | refine AV.str_congr ?_ | refine AV.list_congr ?_ | (apply rfl)
  simp
 repeat' first
  | (conv => whnf
     first | refine Need.mk rfl ?_ | refine Ix.strsF rfl ?_ | refine Fork.dec (fun _ => ?_) (fun _ => ?_) | refine Fork.neg (fun _ => ?_) (fun _ => ?_) | refine Round.mk ?_ | refine FinVal.keep ?_ | refine Final.mk ?_ rfl | refine ACall.scalA _ _ (hq _ ?_) rfl ?_)
  | refine AV.bool_congr ?_
 all_goals try simp only [length_rows, length_strs, length_oldLL, List.length_map, Int.toNat_natCast] at *
 ·have := str_le (l := l) (i := i) (by omega); omega
 ·rename_i h1 h2
  simp [tupF, allQ_no (by omega) h2]
 ·rename_i h1 h2
  refine ⟨i + 1, ⟨by omega, allQ_succ (by omega) hi.2 h2⟩, ?_, by omega⟩
  repeat' first
   | exact trivial | refine wl_ ?_ ?_ ?_ ?_ | refine And.intro ?_ ?_ | with_reducible rfl | exact ble_ | refine AV.int_congr ?_ | refine AV.str_congr ?_ | refine AV.list_congr ?_ | (apply rfl)
  rw [wrap64 (by omega) (by omega)]; rfl
 ·have := hi.2
  rw [List.take_of_length_le (by omega)] at this
  simp [tupF, this, hn, hl3]
theorem pIsFact.ret (f : Fct) (h : tFct.size f ≤ 1048576) : pIsFact.Ret [.agg (oldL (tFct.q f))] (.val (.bool (isFactF f))) [] := by
 refine pIsFact.ir.of rfl ?_
 rw [tFct_size, tStrs_size] at h
 have ht : pisTuple.Ret [.str f.1, .list none (strs f.2), .clo 133 [] []] (.val (.bool (isFactF f))) [] := pisTuple.ret atomF _ (fun s hs => pIsAtom.ret s hs) f.1 f.2 (by omega) (by omega)
 repeat' first
  | (conv => whnf
     first | refine FinVal.keep ?_ | refine Final.mk rfl rfl | refine ACall.scalA _ _ (ht) rfl ?_)
theorem pIsPattern.ret (f : VPattern) (h : tPattern.size f ≤ 1048576) : pIsPattern.Ret [.agg (oldL (tPattern.q f))] (.val (.bool (isPatF f))) [] := by
 refine pIsPattern.ir.of rfl ?_
 have h : tFct.size f ≤ 1048576 := h
 rw [tFct_size, tStrs_size] at h
 have ht : pisTuple.Ret [.str f.1, .list none (strs f.2), .clo 197 [] []] (.val (.bool (isPatF f))) [] := pisTuple.ret termF _ (fun s hs => pIsTerm.ret s hs) f.1 f.2 (by omega) (by omega)
 repeat' first
  | (conv => whnf
     first | refine FinVal.keep ?_ | refine Final.mk rfl rfl | refine ACall.scalA _ _ (ht) rfl ?_)
theorem sIsPattern.ret (f : VPattern) (h : tPattern.size f ≤ 1048576) : sIsPattern.Ret [.agg (oldL (tPattern.q f))] (.val (.bool (isPatF f))) [] := by
 refine sIsPattern.ir.of rfl ?_
 have h : tFct.size f ≤ 1048576 := h
 rw [tFct_size, tStrs_size] at h
 skip
 refine ALoop.mk Nat (fun i => ⟨[(1, .bptr 0 0), (3, .val (.int .i64 i))], [.cells .var (oldL (tPattern.q f))], []⟩) (fun i => i ≤ f.2.length ∧ (f.2.take i).all termF = true) (fun i => f.2.length - i) ⟨0, ⟨Nat.zero_le _, rfl⟩, ?_⟩ (fun i hi => ?_)
 ·repeat' first
   | exact trivial | refine wl_ ?_ ?_ ?_ ?_ | refine And.intro ?_ ?_ | with_reducible rfl | exact ble_ | refine AV.int_congr ?_ | (apply rfl)
 repeat' first
  | (conv => whnf
     first | refine Need.mk (fun h => h) ?_ | refine Need.mk rfl ?_ | refine Ix.strsF rfl ?_ | refine Fork.dec (fun _ => ?_) (fun _ => ?_) | refine Fork.neg (fun _ => ?_) (fun _ => ?_) | refine Round.mk ?_ | refine FinVal.keep ?_ | refine Final.mk ?_ rfl | refine ACall.scalA _ _ (sIsTerm.ret _ ?_) rfl ?_ | refine ACall.scalA _ _ (sIsName.ret _ ?_) rfl ?_)
  | refine AV.bool_congr ?_
 all_goals try simp only [length_rows, length_strs, length_oldLL, List.length_map, Int.toNat_natCast] at *
 ·have := str_le (l := f.2) (i := i) (by omega); omega
 ·rename_i h2 h1
  have h2 : termF (f.2.getD i []) = false := h2
  simp [tupF, allQ_no (by omega) h2]
 ·rename_i h2 h1
  refine ⟨i + 1, ⟨by omega, allQ_succ (by omega) hi.2 h2⟩, ?_, by omega⟩
  repeat' first
   | exact trivial | refine wl_ ?_ ?_ ?_ ?_ | refine And.intro ?_ ?_ | with_reducible rfl | exact ble_ | refine AV.int_congr ?_ | (apply rfl)
  rw [wrap64 (by omega) (by omega)]; rfl
 ·omega
 ·have := hi.2
  rw [List.take_of_length_le (by omega)] at this
  simp [tupF, this]
open Abs
theorem slCompareFunc.ret (l m : List Str) (h : tStrs.size l ≤ 1048576) (h' : tStrs.size m ≤ 1048576) :
 slCompareFunc.Ret [.list none (strs l), .list none (strs m), .clo 149 [] []] (.val (.int .i64 (cmpArgs l m))) [] := by
 refine slCompareFunc.ir.of rfl ?_
 rw [tStrs_size] at h h'
 skip
 refine ALoop.mk Nat (fun i => ⟨[(0, .list none (strs l)), (1, .list none (strs m)), (2, .clo 149 [] []), (11, .list none (strs l)), (12, .val (.int .i64 l.length)), (13, .val (.int .i64 i))], [], []⟩) (fun i => i ≤ l.length ∧ i ≤ m.length ∧ cmpArgs (l.drop i) (m.drop i) = cmpArgs l m) (fun i => l.length - i) ⟨0, ⟨Nat.zero_le _, Nat.zero_le _, rfl⟩, ?_⟩ (fun i hi => ?_)
 ·repeat' first
   | exact trivial | refine wl_ ?_ ?_ ?_ ?_ | refine And.intro ?_ ?_ | with_reducible rfl | exact ble_ | refine AV.int_congr ?_ | refine AV.list_congr ?_ | (apply rfl)
  simp
 obtain ⟨hi1, hi2, hi3⟩ := hi
 repeat' first
  | (conv => whnf
     first | refine Need.mk rfl ?_ | refine Ix.strsF rfl ?_ | refine Fork.dec (fun _ => ?_) (fun _ => ?_) | refine Fork.bne (fun _ => ?_) (fun _ => ?_) | refine Round.mk ?_ | refine FinVal.keep ?_ | refine Final.mk ?_ rfl | refine ACall.scalA _ _ (pCompareAtoms.ret _ _ ?_ ?_) rfl ?_)
  | refine AV.int_congr ?_
 all_goals try simp only [length_rows, length_strs, length_oldLL, List.length_map, Int.toNat_natCast] at *
 ·rw [← hi3, cmpArgs_end (by rw [List.drop_eq_nil_iff, List.drop_eq_nil_iff]; omega)]
  simp only [List.length_drop]
  (repeat' split) <;> omega
 ·have := str_le (l := l) (i := i) (by omega); omega
 ·have := str_le (l := m) (i := i) (by omega); omega
 ·rename_i h1 h2 h3
  rw [← hi3, cmpArgs_drop (by omega) (by omega), if_pos h2]
 ·rename_i h1 h2 h3
  refine ⟨i + 1, ⟨by omega, by omega, ?_⟩, ?_, by omega⟩
  ·rw [cmpArgs_drop (by omega) (by omega), if_neg (by simpa using h2)] at hi3; exact hi3
  ·repeat' first
    | exact trivial | refine wl_ ?_ ?_ ?_ ?_ | refine And.intro ?_ ?_ | with_reducible rfl | exact ble_ | refine AV.int_congr ?_ | refine AV.list_congr ?_ | (apply rfl)
   rw [wrap64 (by omega) (by omega)]; rfl
 all_goals rename_i h1 h2
 all_goals rw [← hi3, cmpArgs_end (by rw [List.drop_eq_nil_iff, List.drop_eq_nil_iff]; omega)]
 all_goals simp only [List.length_drop]
 all_goals ((repeat' split) <;> omega)
theorem pCompareFacts.ret (f g : Fct) (h : tFct.size f ≤ 1048576) (h' : tFct.size g ≤ 1048576) : pCompareFacts.Ret [.agg (oldL (tFct.q f)), .agg (oldL (tFct.q g))] (.val (.int .i64 (cmpF f g))) [] := by
 refine pCompareFacts.ir.of rfl ?_
 rw [tFct_size] at h h'
 repeat' first
  | (conv => whnf
     first | refine Need.mk rfl ?_ | refine Fork.bne (fun _ => ?_) (fun _ => ?_) | refine FinVal.keep ?_ | refine Final.mk ?_ rfl | refine ACall.scalA _ _ (cmpString.ret _ _) rfl ?_ | refine ACall.scalA _ _ (slCompareFunc.ret _ _ ?_ ?_) rfl ?_)
  | refine AV.int_congr ?_
 ·rename_i h1
  unfold cmpF; rw [if_neg (fun e => h1 (scmp_zero.2 e))]
 ·omega
 ·omega
 ·rename_i h1
  unfold cmpF; rw [if_pos (scmp_zero.1 (by simpa using h1))]
theorem slEqual.ret (l m : List Str) (hl : l.length ≤ 1099511627776) : slEqual.Ret [.list none (strs l), .list none (strs m)] (.val (.bool (decide (l = m)))) [] := by
 refine slEqual.ir.of rfl ?_
 repeat' first
  | (conv => whnf
     first | refine Need.mk rfl ?_ | refine Fork.bne (fun _ => ?_) (fun _ => ?_) | refine FinVal.keep ?_ | refine Final.mk ?_ rfl)
  | refine AV.bool_congr ?_
 ·rename_i h
  rw [length_strs, length_strs] at h
  have h3 : ¬ l = m := fun e => h (by rw [e])
  simp [h3]
 rename_i h
 rw [length_strs, length_strs] at h
 have h : l.length = m.length := by omega
 skip
 refine ALoop.mk Nat (fun i => ⟨[(0, .list none (strs l)), (1, .list none (strs m)), (12, .val (.int .i64 l.length)), (13, .val (.int .i64 i))], [], []⟩) (fun i => i ≤ l.length ∧ l.take i = m.take i) (fun i => l.length - i) ⟨0, ⟨Nat.zero_le _, rfl⟩, ?_⟩ (fun i hi => ?_)
 ·repeat' first
   | exact trivial | refine wl_ ?_ ?_ ?_ ?_ | refine And.intro ?_ ?_ | with_reducible rfl | exact ble_ | refine AV.int_congr ?_ | refine AV.list_congr ?_ | (apply rfl)
  simp
 repeat' first
  | (conv => whnf
     first | refine Need.mk rfl ?_ | refine Ix.strsF rfl ?_ | refine Fork.dec (fun _ => ?_) (fun _ => ?_) | refine Fork.sne (fun _ => ?_) (fun _ => ?_) | refine Round.mk ?_ | refine FinVal.keep ?_ | refine Final.mk ?_ rfl)
  | refine AV.bool_congr ?_
 ·rename_i h1 h2
  have h3 : ¬ l = m := fun e => h2 (by rw [e])
  simp [h3]
 ·rename_i h1 h2
  refine ⟨i + 1, ⟨by omega, ?_⟩, ?_, by omega⟩
  ·rw [take_succ' [] (by omega), take_succ' (l := m) [] (by omega), hi.2]
   rw [Int.toNat_natCast] at h2
   have h2' : l.getD i [] = m.getD i [] := h2
   rw [h2']
  ·repeat' first
    | exact trivial | refine wl_ ?_ ?_ ?_ ?_ | refine And.intro ?_ ?_ | with_reducible rfl | exact ble_ | refine AV.int_congr ?_ | refine AV.list_congr ?_ | (apply rfl)
   rw [wrap64 (by omega) (by omega)]; rfl
 ·rename_i h1
  have h2 := hi.2
  rw [List.take_of_length_le (by omega), List.take_of_length_le (by omega)] at h2
  simp [h2]
theorem fct_le {l : List Fct} {i : Nat} (hi : i < l.length) : tFct.size (l.getD i default) ≤ listSize tFct l :=
 listSize_mem tFct (List.mem_of_getElem? (facts_get hi))
theorem fct_le' {l : List Fct} (i : Nat) : tFct.size (l.getD i default) ≤ listSize tFct l := by
 rcases Nat.lt_or_ge i l.length with h | h
 ·exact fct_le h
 ·have : l.getD i default = default := by simp [List.getD, List.getElem?_eq_none h]
  rw [this]; exact Nat.zero_le _
def badAt (l : List Fct) (i : Nat) : Bool := !isFactF (l.getD i default) || (decide ((0 : Int) < i) && decide (0 ≤ cmpF (l.getD (i - 1) default) (l.getD i default)))
@[irreducible] def areF (l : List Fct) : Bool := decide ((l.length : Int) ≤ 24) && (List.range l.length).all fun i => !badAt l i
theorem areF_no {l : List Fct} {i : Nat} (hi : i < l.length) (h : badAt l i = true) : areF l = false := by
 have : ((List.range l.length).all fun i => !badAt l i) = false := by
  rw [List.all_eq_false]
  exact ⟨i, List.mem_range.2 hi, by simp [h]⟩
 unfold areF; rw [this, Bool.and_false]
theorem areF_yes {l : List Fct} (h : ∀ j, j < l.length → badAt l j = false) : areF l = decide ((l.length : Int) ≤ 24) := by
 have : ((List.range l.length).all fun i => !badAt l i) = true := by
  rw [List.all_eq_true]
  intro j hj
  simp [h j (List.mem_range.1 hj)]
 unfold areF; rw [this, Bool.and_true]
theorem badAt_step {l : List Fct} {i : Nat} {x : Int} (hi : i < l.length) (hx : x = (i : Int) - 1) :
 (!isFactF (l.getD i default) || (decide ((0 : Int) < (i : Int)) && decide (0 ≤ cmpF (l.getD x.toNat default) (l.getD i default)))) = badAt l i := by
 subst hx
 unfold badAt
 rw [show ((i : Int) - 1).toNat = i - 1 by omega]
theorem sAreFacts.ret (l : List Fct) (h : tFcts.size l ≤ 1048576) : sAreFacts.Ret [.list none (facts l)] (.val (.bool (areF l))) [] := by
 refine sAreFacts.ir.of rfl ?_
 rw [tFcts_size] at h
 skip
 refine ALoop.mk Nat (fun i => ⟨[(0, .list none (facts l)), (3, .val (.int .i64 i))], [], []⟩) (fun i => i ≤ l.length ∧ ∀ j, j < i → badAt l j = false) (fun i => l.length - i) ⟨0, ⟨Nat.zero_le _, by omega⟩, ?_⟩ (fun i hi => ?_)
 ·repeat' first
   | exact trivial | refine wl_ ?_ ?_ ?_ ?_ | refine And.intro ?_ ?_ | with_reducible rfl | exact ble_ | refine AV.int_congr ?_ | refine AV.list_congr ?_ | (apply rfl)
 have hw : i < l.length → IntKind.i64.wrap ((i : Int) - 1) = (i : Int) - 1 := fun h => wrap64 (by omega) (by omega)
 repeat' first
  | (conv => whnf
     first | refine Need.mk (fun h => h) ?_ | refine Need.mk rfl ?_ | refine nb_ ?_ | refine Ix.mapF (fun _ => rfl) ?_ | refine Fork.dec (fun _ => ?_) (fun _ => ?_) | refine Fork.mk (fun _ => ?_) (fun _ => ?_) | refine Round.mk ?_ | refine FinVal.keep ?_ | refine Final.mk ?_ rfl | refine AQCall.mkA _ _ (fun hg => sIsFact.ret _ ?_) rfl ?_ | refine AQCall.mkA _ _ (fun hg => sCompareFacts.ret _ _ ?_ ?_) rfl ?_)
  | refine AV.bool_congr ?_
 all_goals try simp only [length_rows, length_strs, length_oldLL, List.length_map, Int.toNat_natCast] at *
 ·exact Nat.le_trans (fct_le' _) (by omega)
 ·exact Nat.le_trans (fct_le' _) (by omega)
 ·exact Nat.le_trans (fct_le' _) (by omega)
 ·rename_i h1 h2
  rw [badAt_step (by omega) (hw (by omega))] at h1
  rw [areF_no (by omega) h1]
 ·rename_i h1 h2
  rw [badAt_step (by omega) (hw (by omega))] at h1
  refine ⟨i + 1, ⟨by omega, fun j hj => ?_⟩, ?_, by omega⟩
  ·rcases Nat.lt_or_ge j i with h | h
   ·exact hi.2 j h
   ·have : j = i := by omega
    subst this; exact h1
  ·repeat' first
    | exact trivial | refine wl_ ?_ ?_ ?_ ?_ | refine And.intro ?_ ?_ | with_reducible rfl | exact ble_ | refine AV.int_congr ?_ | refine AV.list_congr ?_ | (apply rfl)
   rw [wrap64 (by omega) (by omega)]; rfl
 ·rw [areF_yes (fun j hj => hi.2 j (by omega))]
theorem areF_long {l : List Fct} (h : ¬ (l.length : Int) ≤ 24) : areF l = false := by unfold areF; simp [h]
theorem pAreFacts.ret (l : List Fct) (h : tFcts.size l ≤ 1048576) : pAreFacts.Ret [.list none (facts l)] (.val (.bool (areF l))) [] := by
 refine pAreFacts.ir.of rfl ?_
 rw [tFcts_size] at h
 repeat' first
  | (conv => whnf
     first | refine Need.mk rfl ?_ | refine Fork.dec (fun _ => ?_) (fun _ => ?_) | refine FinVal.keep ?_ | refine Final.mk ?_ rfl)
  | refine AV.bool_congr ?_
 ·rename_i h1
  rw [length_rows] at h1
  rw [areF_long (by omega)]
 rename_i h24
 rw [length_rows] at h24
 skip
 refine ALoop.mk Nat (fun i => ⟨[(0, .list none (facts l)), (8, .list none (facts l)), (9, .val (.int .i64 l.length)), (10, .val (.int .i64 i))], [], []⟩) (fun i => i ≤ l.length ∧ ∀ j, j < i → badAt l j = false) (fun i => l.length - i) ⟨0, ⟨Nat.zero_le _, by omega⟩, ?_⟩ (fun i hi => ?_)
 ·repeat' first
   | exact trivial | refine wl_ ?_ ?_ ?_ ?_ | refine And.intro ?_ ?_ | with_reducible rfl | exact ble_ | refine AV.int_congr ?_ | refine AV.list_congr ?_ | (apply rfl)
  simp
 have hw : i < l.length → IntKind.i64.wrap ((i : Int) - 1) = (i : Int) - 1 := fun h => wrap64 (by omega) (by omega)
 repeat' first
  | (conv => whnf
     first | refine Need.mk (fun h => h) ?_ | refine Need.mk rfl ?_ | refine Need.mk ⟨rfl, Nat.le_of_ble_eq_true rfl⟩ ?_ | refine nb_ ?_ | refine Ix.mapF (fun _ => rfl) ?_ | refine Fork.dec (fun _ => ?_) (fun _ => ?_) | refine Fork.mk (fun _ => ?_) (fun _ => ?_) | refine Round.mk ?_ | refine FinVal.keep ?_ | refine Final.mk ?_ rfl | refine AQCall.mkA _ _ (fun hg => pIsFact.ret _ ?_) rfl ?_ | refine AQCall.mkA _ _ (fun hg => pCompareFacts.ret _ _ ?_ ?_) rfl ?_)
  | refine AV.bool_congr ?_
 all_goals try simp only [length_rows, length_strs, length_oldLL, List.length_map, Int.toNat_natCast] at *
 ·exact Nat.le_trans (fct_le' _) (by omega)
 ·exact Nat.le_trans (fct_le' _) (by omega)
 ·exact Nat.le_trans (fct_le' _) (by omega)
 ·rename_i h2 h1
  rw [badAt_step (by omega) (hw (by omega))] at h1
  rw [areF_no (by omega) h1]
 ·rename_i h2 h1
  rw [badAt_step (by omega) (hw (by omega))] at h1
  refine ⟨i + 1, ⟨by omega, fun j hj => ?_⟩, ?_, by omega⟩
  ·rcases Nat.lt_or_ge j i with h | h
   ·exact hi.2 j h
   ·have : j = i := by omega
    subst this; exact h1
  ·repeat' first
    | exact trivial | refine wr_ ?_ ?_ ?_ ?_ | refine And.intro ?_ ?_ | with_reducible rfl | exact ble_ | refine AV.int_congr ?_ | refine AV.list_congr ?_ | (apply rfl)
   rw [wrap64 (by omega) (by omega)]; rfl
 ·rw [areF_yes (fun j hj => hi.2 j (by omega))]; simp; omega
open Abs
abbrev pairs (b : List VPair) : List (List AV) := rows tPair b
theorem pr_le {l : List VPair} (i : Nat) : (l.getD i default).1.length + (l.getD i default).2.length ≤ listSize tPair l := by
 rcases Nat.lt_or_ge i l.length with h | h
 ·exact tPair_le h
 ·have : l.getD i default = default := by simp [List.getD, List.getElem?_eq_none h]
  rw [this]; exact Nat.zero_le _
def badB (b : List VPair) (i : Nat) : Bool := !varF (b.getD i default).1 || !atomF (b.getD i default).2 || decide ((0 : Int) < i) && !Op.bytesLess (b.getD (i - 1) default).1 (b.getD i default).1
theorem badB_step {b : List VPair} {i : Nat} {x : Int} (hx : x = (i : Int) - 1) :
 (!varF (b.getD i default).1 || !atomF (b.getD i default).2 || decide ((0 : Int) < i) && !Op.bytesLess (b.getD x.toNat default).1 (b.getD i default).1) = badB b i := by
 subst hx
 unfold badB
 rw [show ((i : Int) - 1).toNat = i - 1 by omega]
@[irreducible] def bindF (b : List VPair) : Bool := decide ((b.length : Int) ≤ 6) && (List.range b.length).all fun i => !badB b i
theorem bindF_no {b : List VPair} {i : Nat} (hi : i < b.length) (h : badB b i = true) : bindF b = false := by
 have : ((List.range b.length).all fun i => !badB b i) = false := by
  rw [List.all_eq_false]
  exact ⟨i, List.mem_range.2 hi, by simp [h]⟩
 unfold bindF; rw [this, Bool.and_false]
theorem bindF_yes {b : List VPair} (h : ∀ j, j < b.length → badB b j = false) : bindF b = decide ((b.length : Int) ≤ 6) := by
 have : ((List.range b.length).all fun i => !badB b i) = true := by
  rw [List.all_eq_true]
  intro j hj
  simp [h j (List.mem_range.1 hj)]
 unfold bindF; rw [this, Bool.and_true]
theorem bindF_long {b : List VPair} (h : ¬ (b.length : Int) ≤ 6) : bindF b = false := by unfold bindF; simp [h]
theorem sIsBinding.ret (b : List VPair) (h : tPairs.size b ≤ 1048576) : sIsBinding.Ret [.list none (pairs b)] (.val (.bool (bindF b))) [] := by
 refine sIsBinding.ir.of rfl ?_
 rw [tPairs_sz] at h
 skip
 refine ALoop.mk Nat (fun i => ⟨[(0, .list none (pairs b)), (3, .val (.int .i64 i))], [], []⟩) (fun i => i ≤ b.length ∧ ∀ j, j < i → badB b j = false) (fun i => b.length - i) ⟨0, ⟨Nat.zero_le _, by omega⟩, ?_⟩ (fun i hi => ?_)
 ·repeat' first
   | exact trivial | refine wl_ ?_ ?_ ?_ ?_ | refine And.intro ?_ ?_ | with_reducible rfl | exact ble_ | refine AV.int_congr ?_ | refine AV.list_congr ?_ | (apply rfl)
 have hw : i < b.length → IntKind.i64.wrap ((i : Int) - 1) = (i : Int) - 1 := fun h => wrap64 (by omega) (by omega)
 have hp := pr_le (l := b) i
 have hp' := pr_le (l := b) (i - 1)
 repeat' first
  | (conv => whnf
     first | refine Need.mk (fun h => h) ?_ | refine Need.mk rfl ?_ | refine Ix.mapF (fun _ => rfl) ?_ | refine Fork.dec (fun _ => ?_) (fun _ => ?_) | refine Fork.mk (fun _ => ?_) (fun _ => ?_) | refine Round.mk ?_ | refine FinVal.keep ?_ | refine Final.mk ?_ rfl | refine AQCall.mkA _ _ (fun hg => sIsVar.ret _ ?_) rfl ?_ | refine AQCall.mkA _ _ (fun hg => sIsAtom.ret _ ?_) rfl ?_)
  | refine AV.bool_congr ?_
 all_goals try simp only [length_rows, length_strs, length_oldLL, List.length_map, Int.toNat_natCast] at *
 all_goals try omega
 ·rename_i h1 h2
  rw [badB_step (hw (by omega))] at h1
  rw [bindF_no (by omega) h1]
 ·rename_i h1 h2
  rw [badB_step (hw (by omega))] at h1
  refine ⟨i + 1, ⟨by omega, fun j hj => ?_⟩, ?_, by omega⟩
  ·rcases Nat.lt_or_ge j i with h | h
   ·exact hi.2 j h
   ·have : j = i := by omega
    subst this; exact h1
  ·repeat' first
    | exact trivial | refine wl_ ?_ ?_ ?_ ?_ | refine And.intro ?_ ?_ | with_reducible rfl | exact ble_ | refine AV.int_congr ?_ | refine AV.list_congr ?_ | (apply rfl)
   rw [wrap64 (by omega) (by omega)]; rfl
 ·rw [bindF_yes (fun j hj => hi.2 j (by omega))]
theorem pIsBinding.ret (b : List VPair) (h : tPairs.size b ≤ 1048576) : pIsBinding.Ret [.list none (pairs b)] (.val (.bool (bindF b))) [] := by
 refine pIsBinding.ir.of rfl ?_
 rw [tPairs_sz] at h
 repeat' first
  | (conv => whnf
     first | refine Need.mk rfl ?_ | refine Fork.dec (fun _ => ?_) (fun _ => ?_) | refine FinVal.keep ?_ | refine Final.mk ?_ rfl)
  | refine AV.bool_congr ?_
 ·rename_i h1
  rw [length_rows] at h1
  rw [bindF_long (by omega)]
 rename_i h6
 rw [length_rows] at h6
 skip
 refine ALoop.mk Nat (fun i => ⟨[(0, .list none (pairs b)), (8, .list none (pairs b)), (9, .val (.int .i64 b.length)), (10, .val (.int .i64 i))], [], []⟩) (fun i => i ≤ b.length ∧ ∀ j, j < i → badB b j = false) (fun i => b.length - i) ⟨0, ⟨Nat.zero_le _, by omega⟩, ?_⟩ (fun i hi => ?_)
 ·repeat' first
   | exact trivial | refine wl_ ?_ ?_ ?_ ?_ | refine And.intro ?_ ?_ | with_reducible rfl | exact ble_ | refine AV.int_congr ?_ | refine AV.list_congr ?_ | (apply rfl)
  simp
 have hw : i < b.length → IntKind.i64.wrap ((i : Int) - 1) = (i : Int) - 1 := fun h => wrap64 (by omega) (by omega)
 have hp := pr_le (l := b) i
 have hp' := pr_le (l := b) (i - 1)
 repeat' first
  | (conv => whnf
     first | refine Need.mk (fun h => h) ?_ | refine Need.mk rfl ?_ | refine Need.mk ⟨rfl, Nat.le_of_ble_eq_true rfl⟩ ?_ | refine nb_ ?_ | refine Ix.mapF (fun _ => rfl) ?_ | refine Fork.dec (fun _ => ?_) (fun _ => ?_) | refine Fork.mk (fun _ => ?_) (fun _ => ?_) | refine Round.mk ?_ | refine FinVal.keep ?_ | refine Final.mk ?_ rfl | refine AQCall.mkA _ _ (fun hg => pIsVar.ret _ ?_) rfl ?_ | refine AQCall.mkA _ _ (fun hg => pIsAtom.ret _ ?_) rfl ?_)
  | refine AV.bool_congr ?_
 all_goals try simp only [length_rows, length_strs, length_oldLL, List.length_map, Int.toNat_natCast] at *
 all_goals try omega
 ·rename_i h2 h1
  rw [badB_step (hw (by omega))] at h1
  rw [bindF_no (by omega) h1]
 ·rename_i h2 h1
  rw [badB_step (hw (by omega))] at h1
  refine ⟨i + 1, ⟨by omega, fun j hj => ?_⟩, ?_, by omega⟩
  ·rcases Nat.lt_or_ge j i with h | h
   ·exact hi.2 j h
   ·have : j = i := by omega
    subst this; exact h1
  ·repeat' first
    | exact trivial | refine wr_ ?_ ?_ ?_ ?_ | refine And.intro ?_ ?_ | with_reducible rfl | exact ble_ | refine AV.int_congr ?_ | refine AV.list_congr ?_ | (apply rfl)
   rw [wrap64 (by omega) (by omega)]; rfl
 ·rw [bindF_yes (fun j hj => hi.2 j (by omega))]; simp; omega
def lookV : List VPair → Str → Option Str
 | [], _ => none
 | p :: b, t => if p.1 = t then some p.2 else lookV b t
theorem lookV_drop {b : List VPair} {t : Str} {i : Nat} (hi : i < b.length) : lookV (b.drop i) t = if (b.getD i default).1 = t then some (b.getD i default).2 else lookV (b.drop (i + 1)) t := by
 rw [List.drop_eq_getElem_cons hi, lookV]
 simp [List.getD, hi]
@[irreducible] def valF (b : List VPair) (t : Str) : Str × Bool := if atomF t then (t, true) else if varF t then (match lookV b t with | some v => (v, true) | none => ([], false)) else ([], false)
theorem valF_hit {b : List VPair} {t v : Str} (h1 : atomF t = false) (h2 : varF t = true) (h : lookV b t = some v) : valF b t = (v, true) := by
 unfold valF; rw [if_neg (by simp [h1]), if_pos h2, h]
theorem valF_miss {b : List VPair} {t : Str} (h1 : atomF t = false) (h : varF t = true → lookV b t = none) : valF b t = ([], false) := by
 unfold valF; rw [if_neg (by simp [h1])]
 split
 ·rename_i hv; rw [h hv]
 ·rfl
theorem sValueOf.ret (b : List VPair) (t : Str) (h : tPairs.size b ≤ 1048576) (ht : t.length ≤ 1048576) : sValueOf.Ret [.list none (pairs b), .str t] (.tup [.str (valF b t).1, .val (.bool (valF b t).2)]) [] := by
 refine sValueOf.ir.ofS rfl rfl ?_
 rw [tPairs_sz] at h
 repeat' first
  | (conv => whnf
     first | refine Fork.mk (fun _ => ?_) (fun _ => ?_) | refine FinVal.keep ?_ | refine Final.mk ?_ rfl | refine ACall.scalA _ _ (sIsAtom.ret _ ?_) rfl ?_)
 ·exact ht
 ·rename_i h1; unfold valF; rw [if_pos h1]
 rename_i h1
 refine ALoop.mk Nat (fun i => ⟨[(0, .list none (pairs b)), (1, .str t), (6, .val (.int .i64 i))], [], []⟩) (fun i => i ≤ b.length ∧ (varF t = true → lookV (b.drop i) t = lookV b t)) (fun i => b.length - i) ⟨0, ⟨Nat.zero_le _, fun _ => rfl⟩, ?_⟩ (fun i hi => ?_)
 ·repeat' first
   | exact trivial | refine wl_ ?_ ?_ ?_ ?_ | refine And.intro ?_ ?_ | with_reducible rfl | exact ble_ | refine AV.int_congr ?_ | refine AV.str_congr ?_ | refine AV.list_congr ?_ | (apply rfl)
 repeat' first
  | (conv => whnf
     first | refine Need.mk (fun h => h) ?_ | refine Need.mk rfl ?_ | refine Ix.mapF (fun _ => rfl) ?_ | refine Fork.dec (fun _ => ?_) (fun _ => ?_) | refine Fork.mk (fun _ => ?_) (fun _ => ?_) | refine Round.mk ?_ | refine FinVal.keep ?_ | refine Final.mk ?_ rfl | refine AGCall.mkA _ _ (fun hg => sIsVar.ret _ ?_) rfl ?_)
 all_goals try simp only [length_rows, length_strs, length_oldLL, List.length_map, Int.toNat_natCast] at *
 ·exact ht
 ·rename_i h2 h3
  simp only [Bool.and_eq_true, beq_iff_eq] at h2
  have h4 := lookV_drop (b := b) (t := t) (i := i) (by omega)
  rw [if_pos h2.1, hi.2 h2.2] at h4
  rw [valF_hit h1 h2.2 h4]
 ·rename_i h2 h3
  have h4 := lookV_drop (b := b) (t := t) (i := i) (by omega)
  refine ⟨i + 1, ⟨by omega, fun hv => ?_⟩, ?_, by omega⟩
  ·rw [hv] at h2
   rw [if_neg (by simpa using h2), hi.2 hv] at h4
   exact h4.symm
  repeat' first
   | exact trivial | refine wl_ ?_ ?_ ?_ ?_ | refine And.intro ?_ ?_ | with_reducible rfl | exact ble_ | refine AV.int_congr ?_ | refine AV.str_congr ?_ | refine AV.list_congr ?_ | (apply rfl)
  rw [wrap64 (by omega) (by omega)]; rfl
 ·rw [valF_miss h1 (fun hv => by rw [← hi.2 hv, List.drop_eq_nil_of_le (by omega)]; rfl)]
theorem pValueOf.ret (b : List VPair) (t : Str) (h : tPairs.size b ≤ 1048576) (ht : t.length ≤ 1048576) : pValueOf.Ret [.list none (pairs b), .str t] (.tup [.str (valF b t).1, .val (.bool (valF b t).2)]) [] := by
 refine pValueOf.ir.ofS rfl rfl ?_
 rw [tPairs_sz] at h
 repeat' first
  | (conv => whnf
     first | refine Fork.neg (fun _ => ?_) (fun _ => ?_) | refine Fork.mk (fun _ => ?_) (fun _ => ?_) | refine FinVal.keep ?_ | refine Final.mk ?_ rfl | refine ACall.scalA _ _ (pIsAtom.ret _ ?_) rfl ?_ | refine ACall.scalA _ _ (pIsVar.ret _ ?_) rfl ?_)
 ·exact ht
 ·rename_i h1; unfold valF; rw [if_pos h1]
 ·exact ht
 ·rename_i h1 h2; unfold valF; rw [if_neg (by simpa using h1), if_neg (by simpa using h2)]
 rename_i h1 h2
 refine ALoop.mk Nat (fun i => ⟨[(0, .list none (pairs b)), (1, .str t), (14, .list none (pairs b)), (15, .val (.int .i64 b.length)), (16, .val (.int .i64 i))], [], []⟩) (fun i => i ≤ b.length ∧ lookV (b.drop i) t = lookV b t) (fun i => b.length - i) ⟨0, ⟨Nat.zero_le _, rfl⟩, ?_⟩ (fun i hi => ?_)
 ·repeat' first
   | exact trivial | refine wl_ ?_ ?_ ?_ ?_ | refine And.intro ?_ ?_ | with_reducible rfl | exact ble_ | refine AV.int_congr ?_ | refine AV.str_congr ?_ | refine AV.list_congr ?_ | (apply rfl)
  simp
 repeat' first
  | (conv => whnf
     first | refine Need.mk rfl ?_ | refine Need.mk ⟨rfl, Nat.le_of_ble_eq_true rfl⟩ ?_ | refine nb_ ?_ | refine Ix.mapF (fun _ => rfl) ?_ | refine Fork.dec (fun _ => ?_) (fun _ => ?_) | refine Fork.seq (fun _ => ?_) (fun _ => ?_) | refine Round.mk ?_ | refine FinVal.keep ?_ | refine Final.mk ?_ rfl)
 all_goals try simp only [length_rows, length_strs, length_oldLL, List.length_map, Int.toNat_natCast] at *
 ·rename_i h3 h4
  have h5 := lookV_drop (b := b) (t := t) (i := i) (by omega)
  rw [if_pos h4, hi.2] at h5
  rw [valF_hit h1 h2 h5]
 ·rename_i h3 h4
  have h5 := lookV_drop (b := b) (t := t) (i := i) (by omega)
  rw [if_neg h4, hi.2] at h5
  refine ⟨i + 1, ⟨by omega, h5.symm⟩, ?_, by omega⟩
  repeat' first
   | exact trivial | refine wr_ ?_ ?_ ?_ ?_ | refine And.intro ?_ ?_ | with_reducible rfl | exact ble_ | refine AV.int_congr ?_ | refine AV.str_congr ?_ | refine AV.list_congr ?_ | (apply rfl)
  rw [wrap64 (by omega) (by omega)]; rfl
 ·rw [valF_miss h1 (fun _ => by rw [← hi.2, List.drop_eq_nil_of_le (by omega)]; rfl)]
theorem pSamePattern.ret (f g : VPattern) (h : tPattern.size f ≤ 1048576) : pSamePattern.Ret [.agg (oldL (tPattern.q f)), .agg (oldL (tPattern.q g))] (.val (.bool (decide (f = g)))) [] := by
 refine pSamePattern.ir.of rfl ?_
 have h : tFct.size f ≤ 1048576 := h
 rw [tFct_size, tStrs_size] at h
 repeat' first
  | (conv => whnf
     first | refine Need.mk (fun h => h) ?_ | refine FinVal.keep ?_ | refine Final.mk ?_ rfl | refine AGCall.mkA _ _ (fun hg => slEqual.ret _ _ ?_) rfl ?_)
  | refine AV.bool_congr ?_
 ·omega
 ·obtain ⟨r, l⟩ := f; obtain ⟨r', l'⟩ := g
  rw [Bool.eq_iff_iff]; simp
open Abs
def sHoldsCond.code : ACode := (q_ (r_ [s 3 (.box (t 0)), s 6 mf_]) (q_ (q_ (r_ [s 7 (a_ 5 3), s 8 (.call 83 [t 7]), s 9 (.not (t 8)), v_ 10 9, g 10 false 11 (.mv (t 1)), g 10 false 12 (.call 161 [t 11]), g 10 false 13 (.not (t 12)), s 14 (.or (t 10) (t 13))]) (.cond (t 14) (q_ (r_ [s 6 mf_]) .ret) .skip)) (q_ (q_ (r_ [s 15 (f_ 0 3), s 16 (l_ 15)]) (.block 0 (q_ (r_ [s 18 (.bin .eql (t 16) (i_ 1)), v_ 17 18]) (.cond (t 17) (q_ (r_ [s 19 (f_ 1 3), s 20 (a_ 2 19), v_ 21 1, v_ 22 2, s 23 (.call 162 [t 20, t 21, t 22]), s 24 (.len false (t 23)), s 25 (.bin .gtr (t 24) (i_ 0)), v_ 6 25]) .ret) (q_ (r_ [s 27 (.bin .eql (t 16) (i_ 2)), v_ 26 27]) (.cond (t 26) (q_ (r_ [s 28 (f_ 1 3), s 29 (a_ 2 28), v_ 30 1, v_ 31 2, s 32 (.call 162 [t 29, t 30, t 31]), s 33 (.len false (t 32)), s 34 (.bin .eql (t 33) (i_ 0)), v_ 6 34]) .ret) .skip)))))) (q_ (r_ [s 35 (a_ 5 3), v_ 36 1, s 37 (.call 163 [t 35, t 36]), v_ 6 37]) .ret))))
theorem sHoldsCond.ir : IrAt Tryz.prog 127 sHoldsCond.code [0, 1, 2, 3, 6, 16] [.tmp 6] Tryz.f127.ntmps := ir_ Tryz.func127
abbrev sHoldsCond.Ret (args : List AV) (r : AV) (frs : Fr) : Prop := Abs.Ret true Tryz.prog 127 args r frs
def pHoldsCond.code : ACode := (q_ (r_ [s 3 (.box (t 0)), s 6 mf_]) (q_ (q_ (r_ [s 7 (a_ 5 3), s 8 (.call 136 [t 7]), s 9 (.not (t 8)), v_ 10 9, g 10 false 11 (.mv (t 1)), g 10 false 12 (.call 185 [t 11]), g 10 false 13 (.not (t 12)), s 14 (.or (t 10) (t 13))]) (.cond (t 14) (q_ (r_ [s 6 mf_]) .ret) .skip)) (q_ (q_ (r_ [s 15 (f_ 0 3), s 16 (l_ 15)]) (.block 0 (q_ (r_ [s 18 (.bin .eql (t 16) (i_ 1)), v_ 17 18]) (.cond (t 17) (q_ (r_ [s 19 (f_ 1 3), s 20 (a_ 2 19), v_ 21 1, v_ 22 2, s 23 (.call 186 [t 20, t 21, t 22]), s 24 (.len false (t 23)), s 25 (.bin .gtr (t 24) (i_ 0)), v_ 6 25]) .ret) (q_ (r_ [s 27 (.bin .eql (t 16) (i_ 2)), v_ 26 27]) (.cond (t 26) (q_ (r_ [s 28 (f_ 1 3), s 29 (a_ 2 28), v_ 30 1, v_ 31 2, s 32 (.call 186 [t 29, t 30, t 31]), s 33 (.len false (t 32)), s 34 (.bin .eql (t 33) (i_ 0)), v_ 6 34]) .ret) .skip)))))) (q_ (r_ [s 35 (a_ 5 3), v_ 36 1, s 37 (.call 187 [t 35, t 36]), v_ 6 37]) .ret))))
theorem pHoldsCond.ir : IrAt Tryz.prog 150 pHoldsCond.code [0, 1, 2, 3, 6, 16] [.tmp 6] Tryz.f150.ntmps := ir_ Tryz.func150
abbrev pHoldsCond.RetN (args : List AV) (r : AV) (frs : Fr) : Prop := Abs.Ret false Tryz.prog 150 args r frs
def sIsCond.code : ACode := (q_ (r_ [s 1 (.box (t 0)), s 2 mf_]) (q_ (q_ (r_ [s 3 (f_ 0 1), s 4 (l_ 3)]) (.block 0 (q_ (q_ (r_ [s 6 (.bin .eql (t 4) (i_ 1)), v_ 5 6]) (.cond (t 5) .skip (r_ [s 7 (.bin .eql (t 4) (i_ 2)), v_ 5 7]))) (.cond (t 5) (q_ (r_ [s 8 (f_ 1 1), s 9 (a_ 2 8), s 10 (.call 122 [t 9]), v_ 11 10, g 11 true 12 (f_ 3 1), g 11 true 13 (l_ 12), g 11 true 14 (.bin .eql (t 13) (.const (.string (.mk #[])))), s 15 (.and (t 11) (t 14)), v_ 16 15, g 16 true 17 (f_ 4 1), g 16 true 18 (l_ 17), g 16 true 19 (.bin .eql (t 18) (.const (.string (.mk #[])))), s 20 (.and (t 16) (t 19)), v_ 2 20]) .ret) (q_ (q_ (r_ [s 22 (.bin .eql (t 4) (i_ 3)), v_ 21 22]) (.cond (t 21) .skip (q_ (r_ [s 23 (.bin .eql (t 4) (i_ 4)), v_ 21 23]) (.cond (t 21) .skip (r_ [s 24 (.bin .eql (t 4) (i_ 5)), v_ 21 24]))))) (.cond (t 21) (q_ (r_ [s 25 (f_ 1 1), s 26 (f_ 0 25), s 27 (l_ 26), s 28 (.bin .eql (t 27) (.const (.string (.mk #[])))), v_ 29 28, g 29 true 30 (f_ 1 1), g 29 true 31 (f_ 1 30), g 29 true 32 (l_ 31), g 29 true 33 (.len false (t 32)), g 29 true 34 (.bin .eql (t 33) (i_ 0)), s 35 (.and (t 29) (t 34)), v_ 36 35, g 36 true 37 (f_ 3 1), g 36 true 38 (l_ 37), g 36 true 39 (.call 123 [t 38]), s 40 (.and (t 36) (t 39)), v_ 41 40, g 41 true 42 (f_ 4 1), g 41 true 43 (l_ 42), g 41 true 44 (.call 123 [t 43]), s 45 (.and (t 41) (t 44)), v_ 2 45]) .ret) .skip)))))) (q_ (r_ [s 2 mf_]) .ret)))
theorem sIsCond.ir : IrAt Tryz.prog 83 sIsCond.code [0, 1, 2, 4, 5, 21] [.tmp 2] Tryz.f83.ntmps := ir_ Tryz.func83
abbrev sIsCond.Ret (args : List AV) (r : AV) (frs : Fr) : Prop := Abs.Ret true Tryz.prog 83 args r frs
def pIsCond.code : ACode := (q_ (r_ [s 1 (.box (t 0)), s 2 mf_]) (q_ (q_ (r_ [s 3 (f_ 0 1), s 4 (l_ 3)]) (.block 0 (q_ (q_ (r_ [s 6 (.bin .eql (t 4) (i_ 1)), v_ 5 6]) (.cond (t 5) .skip (r_ [s 7 (.bin .eql (t 4) (i_ 2)), v_ 5 7]))) (.cond (t 5) (q_ (r_ [s 8 (f_ 1 1), s 9 (a_ 2 8), s 10 (.call 168 [t 9]), v_ 11 10, g 11 true 12 (f_ 3 1), g 11 true 13 (l_ 12), g 11 true 14 (.bin .eql (t 13) (.const (.string (.mk #[])))), s 15 (.and (t 11) (t 14)), v_ 16 15, g 16 true 17 (f_ 4 1), g 16 true 18 (l_ 17), g 16 true 19 (.bin .eql (t 18) (.const (.string (.mk #[])))), s 20 (.and (t 16) (t 19)), v_ 2 20]) .ret) .skip)))) (q_ (r_ [s 21 (a_ 5 1), s 22 (.call 169 [t 21]), v_ 2 22]) .ret)))
theorem pIsCond.ir : IrAt Tryz.prog 136 pIsCond.code [0, 1, 2, 4, 5] [.tmp 2] Tryz.f136.ntmps := ir_ Tryz.func136
abbrev pIsCond.Ret (args : List AV) (r : AV) (frs : Fr) : Prop := Abs.Ret true Tryz.prog 136 args r frs
def sIsTest.code : ACode := (q_ (r_ [s 1 (.box (t 0)), s 2 mf_]) (q_ (r_ [s 3 (a_ 5 1), s 4 (.call 83 [t 3]), v_ 5 4, g 5 true 6 (f_ 0 1), g 5 true 7 (l_ 6), g 5 true 8 (.bin .geq (t 7) (i_ 3)), s 9 (.and (t 5) (t 8)), v_ 2 9]) .ret))
theorem sIsTest.ir : IrAt Tryz.prog 86 sIsTest.code [0, 1, 2] [.tmp 2] Tryz.f86.ntmps := ir_ Tryz.func86
abbrev sIsTest.Ret (args : List AV) (r : AV) (frs : Fr) : Prop := Abs.Ret true Tryz.prog 86 args r frs
def pIsTest.code : ACode := (q_ (r_ [s 1 (.box (t 0)), s 2 mf_]) (q_ (r_ [s 6 (f_ 0 1), s 7 (l_ 6), s 8 (.call 198 [t 7]), v_ 5 8, s 9 (.extract (t 5) 0), s 10 (.extract (t 5) 1), s 3 (.alloc [(.int .i64 (.ofNat 0)), (.string (.mk (.mk []))), .nilFunc]), ⟨none, none, (.store 3 (t 3) (t 9))⟩, v_ 4 10]) (q_ (r_ [v_ 11 4, v_ 12 11, g 12 true 13 (f_ 3 1), g 12 true 14 (l_ 13), g 12 true 15 (.call 197 [t 14]), s 16 (.and (t 12) (t 15)), v_ 17 16, g 17 true 18 (f_ 4 1), g 17 true 19 (l_ 18), g 17 true 20 (.call 197 [t 19]), s 21 (.and (t 17) (t 20)), v_ 22 21, g 22 true 23 (f_ 1 1), g 22 true 24 (a_ 2 23), g 22 true 25 (.build [(.string (.mk (.mk []))), (.slice none 0 0)] [] []), g 22 true 26 (.call 170 [t 24, t 25]), s 27 (.and (t 22) (t 26)), v_ 2 27]) .ret)))
theorem pIsTest.ir : IrAt Tryz.prog 169 pIsTest.code [0, 1, 2, 4] [.tmp 2] Tryz.f169.ntmps := ir_ Tryz.func169
abbrev pIsTest.Ret (args : List AV) (r : AV) (frs : Fr) : Prop := Abs.Ret true Tryz.prog 169 args r frs
def sCondVars.code : ACode := (q_ (r_ [s 1 (.box (t 0)), s 2 (.mv (.const (.slice none 0 0)))]) (q_ (r_ [s 4 (f_ 1 1), s 5 (a_ 2 4), s 6 (.call 89 [t 5]), v_ 3 6]) (q_ (q_ (r_ [s 7 (f_ 3 1), s 8 (l_ 7), s 9 (.call 124 [t 8])]) (.cond (t 9) (r_ [v_ 10 3, s 11 (f_ 3 1), s 12 (l_ 11), s 13 (.call 121 [t 10, t 12]), v_ 3 13]) .skip)) (q_ (q_ (r_ [s 14 (f_ 4 1), s 15 (l_ 14), s 16 (.call 124 [t 15])]) (.cond (t 16) (r_ [v_ 17 3, s 18 (f_ 4 1), s 19 (l_ 18), s 20 (.call 121 [t 17, t 19]), v_ 3 20]) .skip)) (q_ (r_ [v_ 21 3, v_ 2 21]) .ret)))))
theorem sCondVars.ir : IrAt Tryz.prog 84 sCondVars.code [0, 1, 2, 3] [.tmp 2] Tryz.f84.ntmps := ir_ Tryz.func84
abbrev sCondVars.Own (args : List AV) (x : Tr) : Prop := Abs.Own true Tryz.prog 84 args x
def pCondVars.code : ACode := (q_ (r_ [s 1 (.box (t 0)), s 2 (.mv (.const (.slice none 0 0)))]) (q_ (r_ [s 3 (f_ 1 1), s 4 (f_ 1 3), s 5 (l_ 4), s 6 (f_ 3 1), s 7 (l_ 6), s 8 (f_ 4 1), s 9 (l_ 8), s 10 (.bslice 9 1 true [t 7, t 9]), s 11 (.bslice 77 1 true [t 5, t 10]), s 12 (.call 178 [t 11]), s 13 (.call 177 [t 12]), v_ 2 13]) .ret))
theorem pCondVars.ir : IrAt Tryz.prog 144 pCondVars.code [0, 1, 2] [.tmp 2] Tryz.f144.ntmps := ir_ Tryz.func144
abbrev pCondVars.Own (args : List AV) (x : Tr) : Prop := Abs.Own true Tryz.prog 144 args x
abbrev pCondVars.Ret (args : List AV) (r : AV) (frs : Fr) : Prop := Abs.Ret true Tryz.prog 144 args r frs
def sHoldsTest.code : ACode := (q_ (r_ [s 2 (.box (t 0)), s 4 mf_]) (q_ (q_ (r_ [s 9 (a_ 5 2), s 10 (.call 86 [t 9]), s 11 (.not (t 10)), v_ 12 11, g 12 false 13 (.mv (t 1)), g 12 false 14 (.call 161 [t 13]), g 12 false 15 (.not (t 14)), s 16 (.or (t 12) (t 15))]) (.cond (t 16) (q_ (r_ [s 4 mf_]) .ret) .skip)) (q_ (r_ [v_ 18 1, s 19 (f_ 3 2), s 20 (l_ 19), s 21 (.call 194 [t 18, t 20]), v_ 17 21, s 22 (.extract (t 17) 0), s 23 (.extract (t 17) 1), v_ 5 22, v_ 6 23]) (q_ (r_ [v_ 25 1, s 26 (f_ 4 2), s 27 (l_ 26), s 28 (.call 194 [t 25, t 27]), v_ 24 28, s 29 (.extract (t 24) 0), s 30 (.extract (t 24) 1), v_ 7 29, v_ 8 30]) (q_ (q_ (r_ [v_ 31 6, s 32 (.not (t 31)), v_ 33 32, g 33 false 34 (.mv (t 8)), g 33 false 35 (.not (t 34)), s 36 (.or (t 33) (t 35))]) (.cond (t 36) (q_ (r_ [s 4 mf_]) .ret) .skip)) (q_ (q_ (r_ [s 37 (f_ 0 2), s 38 (l_ 37)]) (.block 0 (q_ (r_ [s 40 (.bin .eql (t 38) (i_ 3)), v_ 39 40]) (.cond (t 39) (q_ (r_ [v_ 41 5, v_ 42 7, s 43 (.bin .eql (t 41) (t 42)), v_ 4 43]) .ret) (q_ (r_ [s 45 (.bin .eql (t 38) (i_ 4)), v_ 44 45]) (.cond (t 44) (q_ (r_ [v_ 46 5, v_ 47 7, s 48 (.bin .neq (t 46) (t 47)), v_ 4 48]) .ret) .skip)))))) (q_ (r_ [v_ 49 5, s 50 (.call 195 [t 49]), v_ 51 50, g 51 true 52 (.mv (t 7)), g 51 true 53 (.call 195 [t 52]), s 54 (.and (t 51) (t 53)), v_ 55 54, g 55 true 56 (.mv (t 5)), g 55 true 57 (.mv (t 7)), g 55 true 58 (.call 126 [t 56, t 57]), g 55 true 59 (.bin .lss (t 58) (i_ 0)), s 60 (.and (t 55) (t 59)), v_ 4 60]) .ret)))))))
theorem sHoldsTest.ir : IrAt Tryz.prog 163 sHoldsTest.code [0, 1, 2, 4, 5, 6, 7, 8, 38] [.tmp 4] Tryz.f163.ntmps := ir_ Tryz.func163
abbrev sHoldsTest.Ret (args : List AV) (r : AV) (frs : Fr) : Prop := Abs.Ret true Tryz.prog 163 args r frs
def pHoldsTest.code : ACode := (q_ (r_ [s 2 (.box (t 0)), s 4 mf_]) (q_ (q_ (r_ [s 11 (a_ 5 2), s 12 (.call 169 [t 11]), s 13 (.not (t 12)), v_ 14 13, g 14 false 15 (.mv (t 1)), g 14 false 16 (.call 185 [t 15]), g 14 false 17 (.not (t 16)), s 18 (.or (t 14) (t 17))]) (.cond (t 18) (q_ (r_ [s 4 mf_]) .ret) .skip)) (q_ (r_ [v_ 20 1, s 21 (f_ 3 2), s 22 (l_ 21), s 23 (.call 206 [t 20, t 22]), v_ 19 23, s 24 (.extract (t 19) 0), s 25 (.extract (t 19) 1), v_ 5 24, v_ 6 25]) (q_ (r_ [v_ 27 1, s 28 (f_ 4 2), s 29 (l_ 28), s 30 (.call 206 [t 27, t 29]), v_ 26 30, s 31 (.extract (t 26) 0), s 32 (.extract (t 26) 1), v_ 7 31, v_ 8 32]) (q_ (q_ (r_ [v_ 33 6, s 34 (.not (t 33)), v_ 35 34, g 35 false 36 (.mv (t 8)), g 35 false 37 (.not (t 36)), s 38 (.or (t 35) (t 37))]) (.cond (t 38) (q_ (r_ [s 4 mf_]) .ret) .skip)) (q_ (r_ [s 40 (f_ 0 2), s 41 (l_ 40), s 42 (.call 198 [t 41]), v_ 39 42, s 43 (.extract (t 39) 0), s 44 (.extract (t 39) 1), s 9 (.alloc [(.int .i64 (.ofNat 0)), (.string (.mk (.mk []))), .nilFunc]), ⟨none, none, (.store 3 (t 9) (t 43))⟩, v_ 10 44]) (q_ (r_ [s 45 (f_ 2 9), s 46 (l_ 45), v_ 47 5, v_ 48 7, s 49 (.callv (t 46) [t 47, t 48]), v_ 4 49]) .ret)))))))
theorem pHoldsTest.ir : IrAt Tryz.prog 187 pHoldsTest.code [0, 1, 2, 4, 5, 6, 7, 8, 9] [.tmp 4] Tryz.f187.ntmps := ir_ Tryz.func187
abbrev pHoldsTest.Ret (args : List AV) (r : AV) (frs : Fr) : Prop := Abs.Ret true Tryz.prog 187 args r frs
def sMatchingFacts.code : ACode := (q_ (r_ [s 3 (.box (t 0)), s 6 (.mv (.const (.slice none 0 0)))]) (q_ (r_ [s 11 (.bslice 86 2 true []), v_ 7 11]) (q_ (q_ (r_ [s 8 (.mv (i_ 0))]) (.block 0 (.loop (q_ (q_ (r_ [v_ 12 8, v_ 13 2, s 14 (.len false (t 13)), s 15 (.bin .lss (t 12) (t 14))]) (.cond (t 15) .skip (.exit 0))) (q_ (.block 1 (q_ (.held [s 19 (a_ 2 3), v_ 20 2, v_ 21 8, s 22 (.iadr 2 (t 20) (t 21)), s 23 (a_ 2 22), v_ 24 1, s 25 (.call 129 [t 19, t 23, t 24]), v_ 18 25, s 26 (.extract (t 18) 0), s 27 (.extract (t 18) 1), v_ 9 26] [v_ 10 27]) (q_ (r_ [v_ 28 10]) (.cond (t 28) (r_ [v_ 29 7, v_ 30 2, v_ 31 8, s 32 (.iadr 2 (t 30) (t 31)), s 33 (a_ 2 32), s 34 (.call 131 [t 33]), s 35 (.bslice 86 2 false [t 34]), s 36 (.append 86 2 40 (t 29) (t 35)), v_ 7 36]) .skip)))) (r_ [v_ 16 8, s 17 (.bin .add (t 16) (i_ 1)), v_ 8 17])))))) (q_ (r_ [v_ 37 7, v_ 6 37]) .ret))))
theorem sMatchingFacts.ir : IrAt Tryz.prog 162 sMatchingFacts.code [0, 1, 2, 3, 6, 7, 8, 10] [.tmp 6] Tryz.f162.ntmps := ir_ Tryz.func162
abbrev sMatchingFacts.Own (args : List AV) (x : Tr) : Prop := Abs.Own true Tryz.prog 162 args x
abbrev sMatchingFacts.Ret (args : List AV) (r : AV) (frs : Fr) : Prop := Abs.Ret true Tryz.prog 162 args r frs
def pMatchingFacts.code : ACode := (q_ (r_ [s 3 (.box (t 0)), s 6 (.mv (.const (.slice none 0 0)))]) (q_ (r_ [s 12 (.bslice 86 2 true []), v_ 7 12]) (q_ (q_ (r_ [v_ 13 2, s 14 (.len false (t 13)), s 15 (.mv (i_ 0))]) (.block 0 (.loop (q_ (r_ [s 16 (.bin .lss (t 15) (t 14))]) (q_ (.cond (t 16) .skip (.exit 0)) (q_ (.block 1 (q_ (r_ [s 17 (.iadr 2 (t 13) (t 15)), s 18 (a_ 2 17), s 9 (.alloc [(.string (.mk (.mk []))), (.slice none 0 0)]), ⟨none, none, (.store 2 (t 9) (t 18))⟩]) (q_ (r_ [s 20 (a_ 2 3), s 21 (a_ 2 9), v_ 22 1, s 23 (.call 151 [t 20, t 21, t 22]), v_ 19 23, s 24 (.extract (t 19) 0), s 25 (.extract (t 19) 1), v_ 10 24, v_ 11 25]) (q_ (r_ [v_ 26 11]) (.cond (t 26) (r_ [v_ 27 7, s 28 (a_ 2 9), s 29 (.call 153 [t 28]), s 30 (.bslice 86 2 false [t 29]), s 31 (.append 86 2 40 (t 27) (t 30)), v_ 7 31]) .skip))))) (r_ [s 32 (.bin .add (t 15) (i_ 1)), v_ 15 32]))))))) (q_ (r_ [v_ 33 7, v_ 6 33]) .ret))))
theorem pMatchingFacts.ir : IrAt Tryz.prog 186 pMatchingFacts.code [0, 1, 2, 3, 6, 7, 9, 11, 13, 14, 15, 16] [.tmp 6] Tryz.f186.ntmps := ir_ Tryz.func186
abbrev pMatchingFacts.OwnN (args : List AV) (x : Tr) : Prop := Abs.Own false Tryz.prog 186 args x
abbrev pMatchingFacts.RetN (args : List AV) (r : AV) (frs : Fr) : Prop := Abs.Ret false Tryz.prog 186 args r frs
def pcomparisons.code : ACode := (q_ (r_ [s 0 (.mv (.const (.slice none 0 0)))]) (q_ (r_ [s 1 (.build [(.int .i64 (.ofNat 0)), (.string (.mk (.mk []))), .nilFunc] [(0, 1), (1, 1), (2, 1)] [(i_ 3), (.const (.string (.mk #[61]))), (.func 224)]), s 2 (.build [(.int .i64 (.ofNat 0)), (.string (.mk (.mk []))), .nilFunc] [(0, 1), (1, 1), (2, 1)] [(i_ 4), (.const (.string (.mk #[33, 61]))), (.func 225)]), s 3 (.build [(.int .i64 (.ofNat 0)), (.string (.mk (.mk []))), .nilFunc] [(0, 1), (1, 1), (2, 1)] [(i_ 5), (.const (.string (.mk #[60]))), (.func 226)]), s 4 (.bslice 189 3 true [t 1, t 2, t 3]), v_ 0 4]) .ret))
theorem pcomparisons.ir : IrAt Tryz.prog 209 pcomparisons.code [0] [.tmp 0] Tryz.f209.ntmps := ir_ Tryz.func209
abbrev pcomparisons.Ret (args : List AV) (r : AV) (frs : Fr) : Prop := Abs.Ret true Tryz.prog 209 args r frs
def pcomparisonOf.code : ACode := (q_ (r_ [s 2 (.alloc [(.int .i64 (.ofNat 0)), (.string (.mk (.mk []))), .nilFunc]), s 3 mf_]) (q_ (q_ (r_ [s 6 (.call 209 []), s 7 (.len false (t 6)), s 8 (.mv (i_ 0))]) (.block 0 (.loop (q_ (r_ [s 9 (.bin .lss (t 8) (t 7))]) (q_ (.cond (t 9) .skip (.exit 0)) (q_ (.block 1 (q_ (r_ [s 10 (.iadr 3 (t 6) (t 8)), s 11 (a_ 3 10), s 5 (.alloc [(.int .i64 (.ofNat 0)), (.string (.mk (.mk []))), .nilFunc]), ⟨none, none, (.store 3 (t 5) (t 11))⟩]) (q_ (r_ [s 12 (f_ 0 5), s 13 (l_ 12), v_ 14 0, s 15 (.bin .eql (t 13) (t 14))]) (.cond (t 15) (q_ (r_ [s 16 (a_ 3 5), ⟨none, none, (.store 3 (t 2) (t 16))⟩, s 3 mt_]) .ret) .skip)))) (r_ [s 17 (.bin .add (t 8) (i_ 1)), v_ 8 17]))))))) (q_ (r_ [s 18 (.build [(.int .i64 (.ofNat 0)), (.string (.mk (.mk []))), .nilFunc] [] []), ⟨none, none, (.store 3 (t 2) (t 18))⟩, s 3 mf_]) .ret)))
theorem pcomparisonOf.ir : IrAt Tryz.prog 198 pcomparisonOf.code [0, 2, 3, 5, 6, 7, 8, 9] [.cell 2 true 3, .tmp 3] Tryz.f198.ntmps := ir_ Tryz.func198
abbrev pcomparisonOf.Ret (args : List AV) (r : AV) (frs : Fr) : Prop := Abs.Ret true Tryz.prog 198 args r frs
def pcmp1.code : ACode := (q_ (r_ [s 4 mf_]) (q_ (r_ [v_ 5 0, v_ 6 1, s 7 (.bin .eql (t 5) (t 6)), v_ 4 7]) .ret))
theorem pcmp1.ir : IrAt Tryz.prog 224 pcmp1.code [0, 1, 4] [.tmp 4] Tryz.f224.ntmps := ir_ Tryz.func224
abbrev pcmp1.Ret (args : List AV) (r : AV) (frs : Fr) : Prop := Abs.Ret true Tryz.prog 224 args r frs
def pcmp2.code : ACode := (q_ (r_ [s 4 mf_]) (q_ (r_ [v_ 5 0, v_ 6 1, s 7 (.bin .neq (t 5) (t 6)), v_ 4 7]) .ret))
theorem pcmp2.ir : IrAt Tryz.prog 225 pcmp2.code [0, 1, 4] [.tmp 4] Tryz.f225.ntmps := ir_ Tryz.func225
abbrev pcmp2.Ret (args : List AV) (r : AV) (frs : Fr) : Prop := Abs.Ret true Tryz.prog 225 args r frs
def pisLessNumber.code : ACode := (q_ (r_ [s 4 mf_]) (q_ (r_ [v_ 10 0, s 11 (.call 183 [t 10]), v_ 9 11, s 12 (.extract (t 9) 0), s 13 (.extract (t 9) 1), v_ 5 12, v_ 6 13]) (q_ (r_ [v_ 15 1, s 16 (.call 183 [t 15]), v_ 14 16, s 17 (.extract (t 14) 0), s 18 (.extract (t 14) 1), v_ 7 17, v_ 8 18]) (q_ (r_ [v_ 19 6, v_ 20 19, g 20 true 21 (.mv (t 8)), s 22 (.and (t 20) (t 21)), v_ 23 22, g 23 true 24 (.mv (t 5)), g 23 true 25 (.mv (t 7)), g 23 true 26 (.bin .lss (t 24) (t 25)), s 27 (.and (t 23) (t 26)), v_ 4 27]) .ret))))
theorem pisLessNumber.ir : IrAt Tryz.prog 226 pisLessNumber.code [0, 1, 4, 5, 6, 7, 8] [.tmp 4] Tryz.f226.ntmps := ir_ Tryz.func226
abbrev pisLessNumber.Ret (args : List AV) (r : AV) (frs : Fr) : Prop := Abs.Ret true Tryz.prog 226 args r frs
def pvarsAmong.code : ACode := (q_ (r_ [s 2 (.mv (.const (.slice none 0 0)))]) (q_ (r_ [s 6 (.bslice 9 1 true []), v_ 3 6]) (q_ (q_ (r_ [v_ 7 0, s 8 (.len false (t 7)), s 9 (.mv (i_ 0))]) (.block 0 (.loop (q_ (r_ [s 10 (.bin .lss (t 9) (t 8))]) (q_ (.cond (t 10) .skip (.exit 0)) (q_ (.block 1 (q_ (r_ [s 11 (.iadr 1 (t 7) (t 9)), s 12 (l_ 11), v_ 5 12]) (q_ (r_ [v_ 13 5, s 14 (.call 201 [t 13])]) (.cond (t 14) (r_ [v_ 15 3, v_ 16 5, s 17 (.bslice 9 1 false [t 16]), s 18 (.append 9 1 16 (t 15) (t 17)), v_ 3 18]) .skip)))) (r_ [s 19 (.bin .add (t 9) (i_ 1)), v_ 9 19]))))))) (q_ (r_ [v_ 20 3, s 21 (.call 145 [t 20]), v_ 2 21]) .ret))))
theorem pvarsAmong.ir : IrAt Tryz.prog 177 pvarsAmong.code [0, 2, 3, 5, 7, 8, 9, 10] [.tmp 2] Tryz.f177.ntmps := ir_ Tryz.func177
abbrev pvarsAmong.Ret (args : List AV) (r : AV) (frs : Fr) : Prop := Abs.Ret true Tryz.prog 177 args r frs
def slConcat.code : ACode := (q_ (r_ [s 2 (.mv (.const (.slice none 0 0)))]) (q_ (r_ [s 3 (.mv (i_ 0))]) (q_ (q_ (r_ [v_ 9 0, s 10 (.len false (t 9)), s 11 (.mv (i_ 0))]) (.block 0 (.loop (q_ (r_ [s 12 (.bin .lss (t 11) (t 10))]) (q_ (.cond (t 12) .skip (.exit 0)) (q_ (.block 1 (q_ (r_ [s 13 (.iadr 1 (t 9) (t 11)), s 14 (l_ 13), v_ 5 14]) (q_ (r_ [v_ 15 3, v_ 16 5, s 17 (.len false (t 16)), s 18 (.bin .add (t 15) (t 17)), v_ 3 18]) (q_ (r_ [v_ 19 3, s 20 (.bin .lss (t 19) (i_ 0))]) (.cond (t 20) (r_ [s 21 .other, ⟨none, none, .other⟩]) .skip))))) (r_ [s 22 (.bin .add (t 11) (i_ 1)), v_ 11 22]))))))) (q_ (r_ [v_ 23 3, s 24 (.call 202 [(.const (.slice none 0 0)), t 23]), v_ 6 24]) (q_ (q_ (r_ [v_ 25 0, s 26 (.len false (t 25)), s 27 (.mv (i_ 0))]) (.block 2 (.loop (q_ (r_ [s 28 (.bin .lss (t 27) (t 26))]) (q_ (.cond (t 28) .skip (.exit 2)) (q_ (.block 3 (q_ (r_ [s 29 (.iadr 1 (t 25) (t 27)), s 30 (l_ 29), v_ 8 30]) (r_ [v_ 31 6, v_ 32 8, s 33 (.append 9 1 16 (t 31) (t 32)), v_ 6 33]))) (r_ [s 34 (.bin .add (t 27) (i_ 1)), v_ 27 34]))))))) (q_ (r_ [v_ 35 6, v_ 2 35]) .ret))))))
theorem slConcat.ir : IrAt Tryz.prog 178 slConcat.code [0, 2, 3, 5, 6, 8, 9, 10, 11, 12, 25, 26, 27, 28] [.tmp 2] Tryz.f178.ntmps := ir_ Tryz.func178
abbrev slConcat.Ret (args : List AV) (r : AV) (frs : Fr) : Prop := Abs.Ret true Tryz.prog 178 args r frs
abbrev slGrow.Ret (args : List AV) (r : AV) (frs : Fr) : Prop := Abs.Ret true Tryz.prog 202 args r frs
open Abs
def testKind (k : Int) : Bool := k == 3 || k == 4 || k == 5
def zeroP (p : VPattern) : Bool := p.1 == [] && (p.2.length : Int) == 0
def isTestF (x : VCond) : Bool := testKind x.1 && (zeroP x.2.1 && termF x.2.2.1 && termF x.2.2.2)
def hasKind (k : Int) : Bool := k == 1 || k == 2
def isCondF (x : VCond) : Bool := if hasKind x.1 then isPatF x.2.1 && x.2.2.1 == [] && x.2.2.2 == [] else isTestF x
theorem tCond_sz (x : VCond) : tCond.size x = x.2.1.1.length + (x.2.1.2.length + listSize Ty.str x.2.1.2) + (x.2.2.1.length + x.2.2.2.length) := by
 have h : tCond.size x = 0 + (tFct.size x.2.1 + (x.2.2.1.length + x.2.2.2.length)) := rfl
 rw [h, tFct_size, tStrs_size]; omega
theorem tCond_pat (x : VCond) : tPattern.size x.2.1 ≤ tCond.size x := by
 have h : tCond.size x = 0 + (tPattern.size x.2.1 + (x.2.2.1.length + x.2.2.2.length)) := rfl
 omega
theorem zero_pat (p : VPattern) : decide (p = ([], [])) = zeroP p := by
 obtain ⟨r, l⟩ := p
 rw [Bool.eq_iff_iff]; simp [zeroP]
theorem cond_has {x : VCond} (h : hasKind x.1 = true) : (isPatF x.2.1 && x.2.2.1 == [] && x.2.2.2 == []) = isCondF x := by rw [isCondF, if_pos h]
theorem cond_test {x : VCond} (h : hasKind x.1 = false) (h' : testKind x.1 = true) : (zeroP x.2.1 && termF x.2.2.1 && termF x.2.2.2) = isCondF x := by
 rw [isCondF, if_neg (by simp [h]), isTestF, h']; simp
theorem cond_no {x : VCond} (h : hasKind x.1 = false) (h' : testKind x.1 = false) : false = isCondF x := by
 rw [isCondF, if_neg (by simp [h]), isTestF, h']; simp
theorem test_ge (x : VCond) : (isCondF x && decide (3 ≤ x.1)) = isTestF x := by
 unfold isCondF
 cases h : hasKind x.1
 ·rw [if_neg (by simp)]
  cases h' : testKind x.1
  ·unfold isTestF; rw [h']; simp
  ·have : 3 ≤ x.1 := by simp only [testKind, Bool.or_eq_true, beq_iff_eq] at h'; omega
   simp [this]
 ·simp only [hasKind, Bool.or_eq_true, beq_iff_eq] at h
  have h1 : ¬ 3 ≤ x.1 := by omega
  have h2 : testKind x.1 = false := by
   simp only [testKind, Bool.or_eq_false_iff, beq_eq_false_iff_ne]; omega
  simp [isTestF, h1, h2]
theorem pcomparisons.ret : pcomparisons.Ret [] (.list (some 0) [[.val (.int .i64 3), .str [61], .clo 224 [] []], [.val (.int .i64 4), .str [33, 61], .clo 225 [] []], [.val (.int .i64 5), .str [60], .clo 226 [] []]]) [(189, 3, 3)] := by
 refine pcomparisons.ir.of rfl ?_
 repeat' first
  | (conv => whnf
     first | refine Need.mk rfl ?_ | refine Final.mk rfl rfl)
def cmpRows : List (List AV) := [[.val (.int .i64 3), .str [61], .clo 224 [] []], [.val (.int .i64 4), .str [33, 61], .clo 225 [] []], [.val (.int .i64 5), .str [60], .clo 226 [] []]]
def cmpRow (k : Int) : List AV := if k = 3 then [.val (.int .i64 3), .str [61], .clo 224 [] []] else if k = 4 then [.val (.int .i64 4), .str [33, 61], .clo 225 [] []] else if k = 5 then [.val (.int .i64 5), .str [60], .clo 226 [] []] else [.val (.int .i64 0), .str [], .val .nilFunc]
set_option maxHeartbeats 1000000 in
theorem pcomparisonOf.ret (k : Int) : pcomparisonOf.Ret [.val (.int .i64 k)] (.tup [.agg (cmpRow k), .val (.bool (testKind k))]) [(189, 3, 3)] := by
 refine pcomparisonOf.ir.of rfl ?_
 repeat' first
  | (conv => whnf
     first | refine ACall.mkR _ _ _ (pcomparisons.ret) ?_)
 refine ALoop.mk Nat (fun i => ⟨[(0, .val (.int .i64 k)), (2, .bptr 0 0), (6, .list (some 0) cmpRows), (7, .val (.int .i64 3)), (8, .val (.int .i64 i))], [.cells .var [.val (.int .i64 0), .str [], .val .nilFunc]], [(189, 3, 3)]⟩) (fun i => i ≤ 3 ∧ (0 < i → k ≠ 3) ∧ (1 < i → k ≠ 4) ∧ (2 < i → k ≠ 5)) (fun i => 3 - i) ⟨0, ⟨by omega, by omega, by omega, by omega⟩, ?_⟩ (fun i hi => ?_)
 ·repeat' first
   | exact trivial | refine wl_ ?_ ?_ ?_ ?_ | refine And.intro ?_ ?_ | with_reducible rfl | exact ble_ | refine fr1 ?_ | refine AV.int_congr ?_ | refine AV.list_congr ?_ | (apply rfl)
 obtain ⟨hi, h3, h4, h5⟩ := hi
 have hc : i = 0 ∨ i = 1 ∨ i = 2 ∨ i = 3 := by omega
 rcases hc with rfl | rfl | rfl | rfl
 ·have hix : (0 : Int) ≤ (0 : Nat) ∧ cmpRows[((0 : Nat) : Int).toNat]? = some [.val (.int .i64 3), .str [61], .clo 224 [] []] ∧ 3 = 3 := ⟨by omega, rfl, rfl⟩
  repeat' first
   | (conv => whnf
      first | refine Need.mk rfl ?_ | refine Need.mk ⟨rfl, Nat.le_of_ble_eq_true rfl⟩ ?_ | refine nb_ ?_ | refine Ix.mk _ (fun _ => hix) ?_ | refine Fork.decYes (by omega) ?_ | refine Fork.dec (fun _ => ?_) (fun _ => ?_) | refine Round.mk ?_ | refine FinVal.keep ?_ | refine FinAgg.keep ?_ | refine Final.mk ?_ rfl)
  ·rename_i h; subst h; rfl
  ·rename_i h
   refine ⟨1, ⟨by omega, fun _ => by omega, fun _ => by omega, fun _ => by omega⟩, ?_, by omega⟩
   repeat' first
    | exact trivial | refine wr_ ?_ ?_ ?_ ?_ | refine And.intro ?_ ?_ | with_reducible rfl | exact ble_ | refine AV.int_congr ?_ | refine AV.list_congr ?_ | (apply rfl)
 ·have hix : (0 : Int) ≤ (1 : Nat) ∧ cmpRows[((1 : Nat) : Int).toNat]? = some [.val (.int .i64 4), .str [33, 61], .clo 225 [] []] ∧ 3 = 3 := ⟨by omega, rfl, rfl⟩
  repeat' first
   | (conv => whnf
      first | refine Need.mk rfl ?_ | refine Need.mk ⟨rfl, Nat.le_of_ble_eq_true rfl⟩ ?_ | refine nb_ ?_ | refine Ix.mk _ (fun _ => hix) ?_ | refine Fork.decYes (by omega) ?_ | refine Fork.dec (fun _ => ?_) (fun _ => ?_) | refine Round.mk ?_ | refine FinVal.keep ?_ | refine FinAgg.keep ?_ | refine Final.mk ?_ rfl)
  ·rename_i h; subst h; rfl
  ·rename_i h
   refine ⟨2, ⟨by omega, fun _ => by omega, fun _ => by omega, fun _ => by omega⟩, ?_, by omega⟩
   repeat' first
    | exact trivial | refine wr_ ?_ ?_ ?_ ?_ | refine And.intro ?_ ?_ | with_reducible rfl | exact ble_ | refine AV.int_congr ?_ | refine AV.list_congr ?_ | (apply rfl)
 ·have hix : (0 : Int) ≤ (2 : Nat) ∧ cmpRows[((2 : Nat) : Int).toNat]? = some [.val (.int .i64 5), .str [60], .clo 226 [] []] ∧ 3 = 3 := ⟨by omega, rfl, rfl⟩
  repeat' first
   | (conv => whnf
      first | refine Need.mk rfl ?_ | refine Need.mk ⟨rfl, Nat.le_of_ble_eq_true rfl⟩ ?_ | refine nb_ ?_ | refine Ix.mk _ (fun _ => hix) ?_ | refine Fork.decYes (by omega) ?_ | refine Fork.dec (fun _ => ?_) (fun _ => ?_) | refine Round.mk ?_ | refine FinVal.keep ?_ | refine FinAgg.keep ?_ | refine Final.mk ?_ rfl)
  ·rename_i h; subst h; rfl
  ·rename_i h
   refine ⟨3, ⟨by omega, fun _ => by omega, fun _ => by omega, fun _ => by omega⟩, ?_, by omega⟩
   repeat' first
    | exact trivial | refine wr_ ?_ ?_ ?_ ?_ | refine And.intro ?_ ?_ | with_reducible rfl | exact ble_ | refine AV.int_congr ?_ | refine AV.list_congr ?_ | (apply rfl)
 ·have h3 := h3 (by omega)
  have h4 := h4 (by omega)
  have h5 := h5 (by omega)
  have e1 : cmpRow k = [.val (.int .i64 0), .str [], .val .nilFunc] := by rw [cmpRow, if_neg h3, if_neg h4, if_neg h5]
  have e2 : testKind k = false := by simp [testKind, h3, h4, h5]
  rw [e1, e2]
  repeat' first
   | (conv => whnf
      first | refine Need.mk rfl ?_ | refine Need.mk ⟨rfl, Nat.le_of_ble_eq_true rfl⟩ ?_ | refine nb_ ?_ | refine Fork.decNo (by omega) ?_ | refine FinVal.keep ?_ | refine FinAgg.keep ?_ | refine Final.mk rfl rfl)
theorem cmp3 : pcomparisonOf.Ret [.val (.int .i64 3)] (.tup [.agg [.val (.int .i64 3), .str [61], .clo 224 [] []], .val (.bool true)]) [(189, 3, 3)] := pcomparisonOf.ret 3
theorem cmp4 : pcomparisonOf.Ret [.val (.int .i64 4)] (.tup [.agg [.val (.int .i64 4), .str [33, 61], .clo 225 [] []], .val (.bool true)]) [(189, 3, 3)] := pcomparisonOf.ret 4
theorem cmp5 : pcomparisonOf.Ret [.val (.int .i64 5)] (.tup [.agg [.val (.int .i64 5), .str [60], .clo 226 [] []], .val (.bool true)]) [(189, 3, 3)] := pcomparisonOf.ret 5
theorem cmpNo {k : Int} (h : testKind k = false) : pcomparisonOf.Ret [.val (.int .i64 k)] (.tup [.agg [.val (.int .i64 0), .str [], .val .nilFunc], .val (.bool false)]) [(189, 3, 3)] := by
 have h' := pcomparisonOf.ret k
 have h3 : k ≠ 3 := by rintro rfl; cases h
 have h4 : k ≠ 4 := by rintro rfl; cases h
 have h5 : k ≠ 5 := by rintro rfl; cases h
 have e1 : cmpRow k = [.val (.int .i64 0), .str [], .val .nilFunc] := by rw [cmpRow, if_neg h3, if_neg h4, if_neg h5]
 rwa [h, e1] at h'
theorem sIsCond.ret (x : VCond) (h : tCond.size x ≤ 1048576) : sIsCond.Ret [.agg (oldL (tCond.q x))] (.val (.bool (isCondF x))) [] := by
 refine sIsCond.ir.of rfl ?_
 have hp := tCond_pat x
 have hz := tCond_sz x
 repeat' first
  | (conv => whnf
     first | refine Need.mk (fun h => h) ?_ | refine Need.mk rfl ?_ | refine nb_ ?_ | refine Fork.decYes (by omega) ?_ | refine Fork.dec (fun _ => ?_) (fun _ => ?_) | refine FinVal.keep ?_ | refine Final.mk ?_ rfl | refine ACall.scalA _ _ (sIsPattern.ret _ ?_) rfl ?_ | refine AGCall.mkA _ _ (fun hg => sIsTerm.ret _ ?_) rfl ?_)
  | refine AV.bool_congr ?_
 all_goals first
  | omega
  | (refine (cond_has ?_) ; simp [hasKind, *]; done)
  | (rw [length_oldLL, List.length_map]; refine (cond_test ?_ ?_) <;> (simp [hasKind, testKind, *]; done))
  | (refine (cond_no ?_ ?_) <;> (simp [hasKind, testKind, *]; done))
theorem sIsTest.ret (x : VCond) (h : tCond.size x ≤ 1048576) : sIsTest.Ret [.agg (oldL (tCond.q x))] (.val (.bool (isTestF x))) [] := by
 refine sIsTest.ir.of rfl ?_
 repeat' first
  | (conv => whnf
     first | refine Need.mk (fun h => h) ?_ | refine Need.mk rfl ?_ | refine nb_ ?_ | refine FinVal.keep ?_ | refine Final.mk ?_ rfl | refine ACall.scalA _ _ (sIsCond.ret _ ?_) rfl ?_)
  | refine AV.bool_congr ?_
 ·exact h
 ·exact test_ge x
theorem pzero.ret (p : VPattern) (h : tPattern.size p ≤ 1048576) : pSamePattern.Ret [.agg (oldL (tPattern.q p)), .agg [.str [], .list none []]] (.val (.bool (zeroP p))) [] := by
 have h' := pSamePattern.ret p ([], []) h
 rwa [zero_pat] at h'
theorem test_eq {k : Int} {p : VPattern} {l r : Str} (h : testKind k = true) : (termF l && termF r && zeroP p) = isTestF (k, p, l, r) := by
 simp only [isTestF, h]
 cases zeroP p <;> cases termF l <;> cases termF r <;> rfl
theorem test_no {k : Int} {p : VPattern} {l r : Str} (h : testKind k = false) : false = isTestF (k, p, l, r) := by simp [isTestF, h]
theorem pIsTest.ret (x : VCond) (h : tCond.size x ≤ 1048576) : pIsTest.Ret [.agg (oldL (tCond.q x))] (.val (.bool (isTestF x))) [] := by
 refine pIsTest.ir.ofS rfl rfl ?_
 have hp := tCond_pat x
 have hz := tCond_sz x
 obtain ⟨k, p, l, r⟩ := x
 simp only at hp hz
 have hl : l.length ≤ 1048576 := by omega
 have hr : r.length ≤ 1048576 := by omega
 have hzp := pzero.ret p (by omega)
 by_cases h3 : k = 3
 ·subst h3
  repeat' first
   | (conv => whnf
      first | refine Need.mk (fun h => h) ?_ | refine Need.mk rfl ?_ | refine Need.mk ⟨rfl, Nat.le_of_ble_eq_true rfl⟩ ?_ | refine nb_ ?_ | refine FinVal.keep ?_ | refine Final.mk ?_ rfl | refine ACall.mkR _ _ _ (cmp3) ?_ | refine AGCall.mkA _ _ (fun hg => pIsTerm.ret _ ?_) rfl ?_ | refine AGCall.mkA _ _ (fun hg => hzp) rfl ?_)
   | refine AV.bool_congr ?_
  all_goals first
   | assumption
   | exact test_eq rfl
 by_cases h4 : k = 4
 ·subst h4
  repeat' first
   | (conv => whnf
      first | refine Need.mk (fun h => h) ?_ | refine Need.mk rfl ?_ | refine Need.mk ⟨rfl, Nat.le_of_ble_eq_true rfl⟩ ?_ | refine nb_ ?_ | refine FinVal.keep ?_ | refine Final.mk ?_ rfl | refine ACall.mkR _ _ _ (cmp4) ?_ | refine AGCall.mkA _ _ (fun hg => pIsTerm.ret _ ?_) rfl ?_ | refine AGCall.mkA _ _ (fun hg => hzp) rfl ?_)
   | refine AV.bool_congr ?_
  all_goals first
   | assumption
   | exact test_eq rfl
 by_cases h5 : k = 5
 ·subst h5
  repeat' first
   | (conv => whnf
      first | refine Need.mk (fun h => h) ?_ | refine Need.mk rfl ?_ | refine Need.mk ⟨rfl, Nat.le_of_ble_eq_true rfl⟩ ?_ | refine nb_ ?_ | refine FinVal.keep ?_ | refine Final.mk ?_ rfl | refine ACall.mkR _ _ _ (cmp5) ?_ | refine AGCall.mkA _ _ (fun hg => pIsTerm.ret _ ?_) rfl ?_ | refine AGCall.mkA _ _ (fun hg => hzp) rfl ?_)
   | refine AV.bool_congr ?_
  all_goals first
   | assumption
   | exact test_eq rfl
 have hk : testKind k = false := by simp [testKind, *]
 have hcn := cmpNo hk
 repeat' first
  | contradiction
  | (conv => whnf
     first | refine Need.mk (fun h => h) ?_ | refine Need.mk rfl ?_ | refine Need.mk ⟨rfl, Nat.le_of_ble_eq_true rfl⟩ ?_ | refine nb_ ?_ | refine FinVal.keep ?_ | refine Final.mk ?_ rfl | refine ACall.mkR _ _ _ (hcn) ?_ | refine AGCall.mkA _ _ (fun hg => pIsTerm.ret _ ?_) rfl ?_ | refine AGCall.mkA _ _ (fun hg => hzp) rfl ?_)
  | refine AV.bool_congr ?_
 all_goals first
  | assumption
  | exact test_no hk
theorem pIsCond.ret (x : VCond) (h : tCond.size x ≤ 1048576) : pIsCond.Ret [.agg (oldL (tCond.q x))] (.val (.bool (isCondF x))) [] := by
 refine pIsCond.ir.ofS rfl rfl ?_
 have hp := tCond_pat x
 have hz := tCond_sz x
 repeat' first
  | (conv => whnf
     first | refine Need.mk (fun h => h) ?_ | refine Need.mk rfl ?_ | refine nb_ ?_ | refine Fork.decYes (by omega) ?_ | refine Fork.dec (fun _ => ?_) (fun _ => ?_) | refine FinVal.keep ?_ | refine Final.mk ?_ rfl | refine ACall.scalA _ _ (pIsPattern.ret _ ?_) rfl ?_ | refine ACall.scalA _ _ (pIsTest.ret _ ?_) rfl ?_)
  | refine AV.bool_congr ?_
 all_goals first
  | omega
  | (refine (cond_has ?_) ; simp [hasKind, *]; done)
  | (rw [isCondF, if_neg]; simp [hasKind, *]; done)
open Abs
def lessF (a b : Str) : Bool := (parseF a).2 && (parseF b).2 && decide ((parseF a).1 < (parseF b).1)
theorem less_cmp (a b : Str) : ((parseF a).2 && (parseF b).2 && decide (cmpA a b < 0)) = lessF a b := by
 unfold lessF cmpA
 cases ha : (parseF a).2 <;> cases hb : (parseF b).2 <;> simp
 unfold icmp
 split
 ·rename_i h; simp [h]
 ·split
  ·rename_i h; simp [h]
  ·rename_i h _; simp; omega
theorem valF_len (b : List VPair) (t : Str) (h : tPairs.size b ≤ 1048576) (ht : t.length ≤ 1048576) : (valF b t).1.length ≤ 1048576 := by
 rw [tPairs_sz] at h
 unfold valF
 split
 ·exact ht
 split
 ·cases hl : lookV b t with
  | none => simp
  | some v =>
   have : v.length ≤ listSize tPair b := by
    clear h
    induction b with
    | nil => cases hl
    | cons p b ih =>
     rw [lookV] at hl
     have e : listSize tPair (p :: b) = (p.1.length + p.2.length) + listSize tPair b := rfl
     split at hl
     ·cases hl; omega
     ·have := ih hl; omega
   simp; omega
 ·simp
def opF (k : Int) (a b : Str) : Bool := if k = 3 then a == b else if k = 4 then !(a == b) else lessF a b
def holdsTF (x : VCond) (b : List VPair) : Bool := isTestF x && bindF b && (valF b x.2.2.1).2 && (valF b x.2.2.2).2 && opF x.1 (valF b x.2.2.1).1 (valF b x.2.2.2).1
theorem holds_no1 {x : VCond} {b : List VPair} (h : (!isTestF x || !bindF b) = true) : false = holdsTF x b := by
 unfold holdsTF; revert h; cases isTestF x <;> cases bindF b <;> simp
theorem holds_no2 {x : VCond} {b : List VPair} (h : (!(valF b x.2.2.1).2 || !(valF b x.2.2.2).2) = true) : false = holdsTF x b := by
 unfold holdsTF; revert h; cases (valF b x.2.2.1).2 <;> cases (valF b x.2.2.2).2 <;> simp
theorem holds_at {x : VCond} {b : List VPair} (h : (!isTestF x || !bindF b) = false) (h' : (!(valF b x.2.2.1).2 || !(valF b x.2.2.2).2) = false) : opF x.1 (valF b x.2.2.1).1 (valF b x.2.2.2).1 = holdsTF x b := by
 unfold holdsTF; revert h h'; cases isTestF x <;> cases bindF b <;> cases (valF b x.2.2.1).2 <;> cases (valF b x.2.2.2).2 <;> simp
theorem sHoldsTest.ret (x : VCond) (b : List VPair) (h : tCond.size x ≤ 1048576) (hb : tPairs.size b ≤ 1048576) : sHoldsTest.Ret [.agg (oldL (tCond.q x)), .list none (pairs b)] (.val (.bool (holdsTF x b))) [] := by
 refine sHoldsTest.ir.ofS rfl rfl ?_
 have hz := tCond_sz x
 have hl : x.2.2.1.length ≤ 1048576 := by omega
 have hr : x.2.2.2.length ≤ 1048576 := by omega
 have hvl := valF_len b _ hb hl
 have hvr := valF_len b _ hb hr
 repeat' first
  | (conv => whnf
     first | refine Need.mk (fun h => h) ?_ | refine Need.mk rfl ?_ | refine nb_ ?_ | refine Fork.dec (fun _ => ?_) (fun _ => ?_) | refine Fork.mk (fun _ => ?_) (fun _ => ?_) | refine FinVal.keep ?_ | refine Final.mk ?_ rfl | refine ACall.scalA _ _ (sIsTest.ret _ ?_) rfl ?_ | refine AGCall.mkA _ _ (fun hg => sIsBinding.ret _ ?_) rfl ?_ | refine ACall.scalA _ _ (sValueOf.ret _ _ ?_ ?_) rfl ?_ | refine ACall.scalA _ _ (sIsNumber.ret _ ?_) rfl ?_ | refine AGCall.mkA _ _ (fun hg => sIsNumber.ret _ ?_) rfl ?_ | refine AGCall.mkA _ _ (fun hg => sCompareAtoms.ret _ _ ?_ ?_) rfl ?_)
  | refine AV.bool_congr ?_
 all_goals first
  | assumption
  | exact holds_no1 (by assumption)
  | exact holds_no2 (by assumption)
  | (rw [← holds_at (by assumption) (by assumption), opF, if_pos (by assumption)])
  | (rw [← holds_at (by assumption) (by assumption), opF, if_neg (by assumption), if_pos (by assumption)])
  | (rw [← holds_at (by assumption) (by assumption), opF, if_neg (by assumption), if_neg (by assumption), less_cmp])
theorem pcmp1.ret (a b : Str) : pcmp1.Ret [.str a, .str b] (.val (.bool (a == b))) [] := by
 refine pcmp1.ir.of rfl ?_
 repeat' first
  | (conv => whnf
     first | refine FinVal.keep ?_ | refine Final.mk rfl rfl)
theorem pcmp2.ret (a b : Str) : pcmp2.Ret [.str a, .str b] (.val (.bool (!(a == b)))) [] := by
 refine pcmp2.ir.of rfl ?_
 repeat' first
  | (conv => whnf
     first | refine FinVal.keep ?_ | refine Final.mk rfl rfl)
theorem pisLessNumber.ret (a b : Str) (ha : a.length ≤ 1048576) (hb : b.length ≤ 1048576) : pisLessNumber.Ret [.str a, .str b] (.val (.bool (lessF a b))) [] := by
 refine pisLessNumber.ir.of rfl ?_
 repeat' first
  | (conv => whnf
     first | refine Need.mk (fun h => h) ?_ | refine Need.mk rfl ?_ | refine FinVal.keep ?_ | refine Final.mk rfl rfl | refine ACall.scalA _ _ (pParseInt.ret _ ?_) rfl ?_)
 all_goals first
  | assumption
  | rfl
theorem test_kind {x : VCond} {b : List VPair} (h : (!isTestF x || !bindF b) = false) : x.1 = 3 ∨ x.1 = 4 ∨ x.1 = 5 := by
 have h1 : isTestF x = true := by revert h; cases isTestF x <;> simp
 unfold isTestF at h1
 rw [Bool.and_eq_true] at h1
 have h2 := h1.1
 simp only [testKind, Bool.or_eq_true, beq_iff_eq] at h2
 omega
theorem pHoldsTest.ret (x : VCond) (b : List VPair) (h : tCond.size x ≤ 1048576) (hb : tPairs.size b ≤ 1048576) : pHoldsTest.Ret [.agg (oldL (tCond.q x)), .list none (pairs b)] (.val (.bool (holdsTF x b))) [] := by
 refine pHoldsTest.ir.ofS rfl rfl ?_
 have hz := tCond_sz x
 have hl : x.2.2.1.length ≤ 1048576 := by omega
 have hr : x.2.2.2.length ≤ 1048576 := by omega
 have hvl := valF_len b _ hb hl
 have hvr := valF_len b _ hb hr
 by_cases hno : (!isTestF x || !bindF b) = true
 ·repeat' first
   | (conv => whnf
      first | refine Need.mk (fun h => h) ?_ | refine nb_ ?_ | refine Fork.yes (by assumption) ?_ | refine FinVal.keep ?_ | refine Final.mk ?_ rfl | refine ACall.scalA _ _ (pIsTest.ret _ ?_) rfl ?_ | refine AGCall.mkA _ _ (fun hg => pIsBinding.ret _ ?_) rfl ?_)
   | refine AV.bool_congr ?_
  all_goals first
   | assumption
   | exact holds_no1 (by assumption)
   | contradiction
 have hyes : (!isTestF x || !bindF b) = false := by simpa using hno
 by_cases hno2 : (!(valF b x.2.2.1).2 || !(valF b x.2.2.2).2) = true
 ·repeat' first
   | (conv => whnf
      first | refine Need.mk (fun h => h) ?_ | refine nb_ ?_ | refine Fork.yes (by assumption) ?_ | refine Fork.no (by assumption) ?_ | refine FinVal.keep ?_ | refine Final.mk ?_ rfl | refine ACall.scalA _ _ (pIsTest.ret _ ?_) rfl ?_ | refine AGCall.mkA _ _ (fun hg => pIsBinding.ret _ ?_) rfl ?_ | refine ACall.scalA _ _ (pValueOf.ret _ _ ?_ ?_) rfl ?_)
   | refine AV.bool_congr ?_
  all_goals first
   | assumption
   | exact holds_no1 (by assumption)
   | exact holds_no2 (by assumption)
   | contradiction
 have hyes2 : (!(valF b x.2.2.1).2 || !(valF b x.2.2.2).2) = false := by simpa using hno2
 rcases test_kind hyes with hk | hk | hk
 ·have hc : pcomparisonOf.Ret [.val (.int .i64 x.1)] (.tup [.agg [.val (.int .i64 3), .str [61], .clo 224 [] []], .val (.bool true)]) [(189, 3, 3)] := by rw [hk]; exact cmp3
  repeat' first
   | (conv => whnf
      first | refine Need.mk (fun h => h) ?_ | refine Need.mk ⟨rfl, Nat.le_of_ble_eq_true rfl⟩ ?_ | refine nb_ ?_ | refine Fork.no (by assumption) ?_ | refine FinVal.keep ?_ | refine Final.mk ?_ rfl | refine ACall.scalA _ _ (pIsTest.ret _ ?_) rfl ?_ | refine AGCall.mkA _ _ (fun hg => pIsBinding.ret _ ?_) rfl ?_ | refine ACall.scalA _ _ (pValueOf.ret _ _ ?_ ?_) rfl ?_ | refine ACall.mkR _ _ _ (hc) ?_ | refine ACall.scalA _ _ (pcmp1.ret _ _) rfl ?_)
   | refine AV.bool_congr ?_
  all_goals first
   | assumption
   | contradiction
   | (rw [← holds_at hyes hyes2, opF, if_pos hk])
 ·have hc : pcomparisonOf.Ret [.val (.int .i64 x.1)] (.tup [.agg [.val (.int .i64 4), .str [33, 61], .clo 225 [] []], .val (.bool true)]) [(189, 3, 3)] := by rw [hk]; exact cmp4
  repeat' first
   | (conv => whnf
      first | refine Need.mk (fun h => h) ?_ | refine Need.mk ⟨rfl, Nat.le_of_ble_eq_true rfl⟩ ?_ | refine nb_ ?_ | refine Fork.no (by assumption) ?_ | refine FinVal.keep ?_ | refine Final.mk ?_ rfl | refine ACall.scalA _ _ (pIsTest.ret _ ?_) rfl ?_ | refine AGCall.mkA _ _ (fun hg => pIsBinding.ret _ ?_) rfl ?_ | refine ACall.scalA _ _ (pValueOf.ret _ _ ?_ ?_) rfl ?_ | refine ACall.mkR _ _ _ (hc) ?_ | refine ACall.scalA _ _ (pcmp2.ret _ _) rfl ?_)
   | refine AV.bool_congr ?_
  all_goals first
   | assumption
   | contradiction
   | (rw [← holds_at hyes hyes2, opF, if_neg (by omega), if_pos hk])
 ·have hc : pcomparisonOf.Ret [.val (.int .i64 x.1)] (.tup [.agg [.val (.int .i64 5), .str [60], .clo 226 [] []], .val (.bool true)]) [(189, 3, 3)] := by rw [hk]; exact cmp5
  repeat' first
   | (conv => whnf
      first | refine Need.mk (fun h => h) ?_ | refine Need.mk ⟨rfl, Nat.le_of_ble_eq_true rfl⟩ ?_ | refine nb_ ?_ | refine Fork.no (by assumption) ?_ | refine FinVal.keep ?_ | refine Final.mk ?_ rfl | refine ACall.scalA _ _ (pIsTest.ret _ ?_) rfl ?_ | refine AGCall.mkA _ _ (fun hg => pIsBinding.ret _ ?_) rfl ?_ | refine ACall.scalA _ _ (pValueOf.ret _ _ ?_ ?_) rfl ?_ | refine ACall.mkR _ _ _ (hc) ?_ | refine ACall.scalA _ _ (pisLessNumber.ret _ _ ?_ ?_) rfl ?_)
   | refine AV.bool_congr ?_
  all_goals first
   | assumption
   | contradiction
   | (rw [← holds_at hyes hyes2, opF, if_neg (by omega), if_neg (by omega)])
open Abs
theorem takeAV_one {n : Nat} {cs : List AV} {k : AV → Prop} (c : AV) (r : List AV) (h : cs = c :: r) (hk : k c) : takeAV false n cs k := by subst h; exact hk
def fctsT (l : List Fct) : Tr := .l 86 2 (l.map tFct.q)
open Abs
theorem sTexts.ret (l : List Str) (h : l.length ≤ 1048576) : sTexts.Ret [.list none (strs l)] (.list (some 0) (strs l)) [(9, 1, l.length)] := by
 refine sTexts.ir.of rfl ?_
 repeat' first
  | (conv => whnf
     first | refine Need.mk rfl ?_ | refine Need.mk ?_ ?_ | refine Final.mk ?_ ?_)
  | refine AV.list_congr ?_ | refine fr1 ?_
 ·exact strs_sz l
 ·simp; omega
 ·rfl
 ·simp
theorem slClone.ret (l : List Str) (h : l.length ≤ 1048576) : slClone.Ret [.list none (strs l)] (.list (some 0) (strs l)) [(9, 1, l.length)] := by
 refine slClone.ir.of rfl ?_
 repeat' first
  | (conv => whnf
     first | refine Need.mk rfl ?_ | refine Need.mk ?_ ?_ | refine Fork.neg (fun _ => ?_) (fun _ => ?_) | refine NilQ.mk (fun b hb => ?_) | refine FinVal.nil 9 1 rfl ?_ | refine Final.mk ?_ ?_)
  | refine AV.list_congr ?_ | refine fr1 ?_
 ·rename_i h1
  have hl : l = [] := List.eq_nil_of_length_eq_zero (by rw [length_strs] at hb; exact hb (by revert h1; cases b <;> simp))
  subst hl; rfl
 ·rename_i h1
  have hl : l = [] := List.eq_nil_of_length_eq_zero (by rw [length_strs] at hb; exact hb (by revert h1; cases b <;> simp))
  subst hl; rfl
 ·exact strs_sz l
 ·simp; omega
 ·rfl
 ·simp
theorem sCopy.ret (f : Fct) (h : tFct.size f ≤ 1048576) : sCopy.Ret [.agg (oldL (tFct.q f))] (.agg (tFct.tk f 0)) (tFct.fr f) := by
 refine sCopy.ir.of rfl ?_
 rw [tFct_size, tStrs_size] at h
 repeat' first
  | (conv => whnf
     first | refine Need.mk rfl ?_ | refine Need.mk ⟨rfl, Nat.le_of_ble_eq_true rfl⟩ ?_ | refine nb_ ?_ | refine FinAgg.keep ?_ | refine Final.mk rfl rfl | refine ACall.mkStrs _ _ (sTexts.ret _ ?_) (by repeat' first | exact SeesL.nil | refine SeesL.cons ?_ ?_ | exact SeesB.of0 (Sees0.val _) | exact SeesB.of0 (Sees0.str _) | exact SeesB.of0 (Sees0.olds _ _) | exact SeesB.of0 (Sees0.old _) | exact SeesB.of0 (Sees0.oldagg _) | exact SeesB.of0 Sees0.nil | exact Sees0.val _ | exact Sees0.str _ | exact Sees0.olds _ _ | exact Sees0.old _ | exact Sees0.oldagg _ | exact Sees0.nil | exact SeesB.of0 (Sees0.any _) | assumption | exact sees_gv _ _ _ (by assumption) (by first | assumption | exact BoxIn.last _ _ | exact BoxIn.more (BoxIn.last _ _) _) | refine SeesB.agg ?_ | refine Sees0.agg ?_ | exact SeesB.of0 (Sees0.clo SeesL.nil SeesL.nil) | exact Sees0.clo SeesL.nil SeesL.nil | exact SeesB.of0 (Sees0.list rfl) | exact Sees0.list rfl) ?_)
 omega
theorem pcopyFact.ret (f : Fct) (h : tFct.size f ≤ 1048576) : pcopyFact.Ret [.agg (oldL (tFct.q f))] (.agg (tFct.tk f 0)) (tFct.fr f) := by
 refine pcopyFact.ir.of rfl ?_
 rw [tFct_size, tStrs_size] at h
 repeat' first
  | (conv => whnf
     first | refine Need.mk rfl ?_ | refine Need.mk ⟨rfl, Nat.le_of_ble_eq_true rfl⟩ ?_ | refine nb_ ?_ | refine FinAgg.keep ?_ | refine Final.mk rfl rfl | refine ACall.mkStrs _ _ (slClone.ret _ ?_) (by repeat' first | exact SeesL.nil | refine SeesL.cons ?_ ?_ | exact SeesB.of0 (Sees0.val _) | exact SeesB.of0 (Sees0.str _) | exact SeesB.of0 (Sees0.olds _ _) | exact SeesB.of0 (Sees0.old _) | exact SeesB.of0 (Sees0.oldagg _) | exact SeesB.of0 Sees0.nil | exact Sees0.val _ | exact Sees0.str _ | exact Sees0.olds _ _ | exact Sees0.old _ | exact Sees0.oldagg _ | exact Sees0.nil | exact SeesB.of0 (Sees0.any _) | assumption | exact sees_gv _ _ _ (by assumption) (by first | assumption | exact BoxIn.last _ _ | exact BoxIn.more (BoxIn.last _ _) _) | refine SeesB.agg ?_ | refine Sees0.agg ?_ | exact SeesB.of0 (Sees0.clo SeesL.nil SeesL.nil) | exact Sees0.clo SeesL.nil SeesL.nil | exact SeesB.of0 (Sees0.list rfl) | exact Sees0.list rfl) ?_)
 omega
def accFr (l : List Fct) : Fr := (86, 2, l.length) :: frs tFct l
theorem accFr_snoc (l : List Fct) (f : Fct) : (accFr l ++ tFct.fr f).set 0 (86, 2, l.length + 1) = accFr (l ++ [f]) := by
 simp [accFr, frs]
theorem acc_snoc (l : List Fct) (f : Fct) : tks tFct l 1 ++ [tFct.tk f (accFr l).length] = tks tFct (l ++ [f]) 1 := by
 rw [tks_append]
 congr 1
 show _ = [tFct.tk f _]
 rw [accFr, List.length_cons, Nat.add_comm]
theorem acc_own {mo : Bool} {P : Program} {f : Nat} {args : List AV} {l : List Fct} (h : Ret mo P f args (.list (some 0) (tks tFct l 1)) (accFr l)) : Own mo P f args (.l 86 2 (l.map tFct.q)) := by
 obtain ⟨ts, h1, p1⟩ := tks_own tFct (accFr l) l 1 (fun i x hi => by rw [accFr, Nat.add_comm, List.getElem?_cons_succ]; exact hi)
 have h2 : OwnA (accFr l) [.l 86 2 (l.map tFct.q)] [.list (some 0) (tks tFct l 1)] (0 :: ts ++ []) :=
  .l 86 2 _ 0 _ (by simp [accFr]) (by rw [length_tks, List.length_map]) (fun e he => by obtain ⟨a, _, rfl⟩ := List.mem_map.1 he; exact tFct.hq a) (tks_sz tFct l 1) h1 .nil
 refine h.own _ h2 ?_
 rw [List.append_nil]
 refine List.nodup_cons.2 ⟨fun hm => ?_, p1.symm.nodup (List.nodup_range' _)⟩
 have := (p1.mem_iff).1 hm
 rw [List.mem_range'_1] at this
 omega
end Go.Proofs.YtoindmahilbalaaGreat
namespace Go.Proofs.YtoindmahilbalaaGreat
namespace Abs
variable {mo : Bool}
open Go.RowKit Go.Sort
theorem heap_putRow {α : Type} [Inhabited α] (enc : α → Value) (w : World) (blk off : Nat) (d : Array α) (c : Array Value) (t : TypeId) (z : Nat × Nat) (h : w.heap[blk]? = some (.cells c t z)) :
 (putRow enc w blk off d).heap[blk]? = some (.cells (putCells enc off d c) t z) := by
 simp [putRow, mapBlock, Array.getElem?_modify, h, onCells]
theorem heap_putRow_other {α : Type} [Inhabited α] (enc : α → Value) (w : World) (blk off : Nat) (d : Array α) (k : Nat) (h : k ≠ blk) : (putRow enc w blk off d).heap[k]? = w.heap[k]? := by
 simp [putRow, mapBlock, Array.getElem?_modify, Ne.symm h]
theorem heap_grow (w : World) (os : Array Obj) (k : Nat) (h : k < w.heap.size) : (grow w os).heap[k]? = w.heap[k]? := by
 simp [grow, Array.getElem?_append, h]
theorem gpost_row {w w' : World} {F : Nat → Nat} {box0 : List BId} {b0 : List ABox} {Φ : AV → List ABox → Prop} (hout : ∀ b, w.heap.size ≤ b → F b = 0) (hbl : box0.length = b0.length)
 (hbi : ∀ (j b c : Nat), box0[j]? = some (.blk b c) → b < w.heap.size ∧ (live b0 j → F b = 0))
 (hbj : ∀ (i j b c c' : Nat), box0[i]? = some (.blk b c) → box0[j]? = some (.blk b c') → live b0 i → live b0 j → i = j)
 (hB : BoxesOk w.heap.size w F [] [] box0 b0) {j blk cap : Nat} {k : RK} {cs cs' : List AV} (hj : box0[j]? = some (.blk blk cap)) (hl : b0[j]? = some (.cells k cs))
 (hdr : w.drawn ≤ w'.drawn) (hos : w'.os = w.os) (htape : w'.tape = w.tape) (hou : w'.output = w.output) (hsz : w.heap.size ≤ w'.heap.size) (hk : ∀ k, k < w.heap.size → k ≠ blk → w'.heap[k]? = w.heap[k]?)
 (hx : (∀ y v, Rep w.heap.size w F [] [] box0 y v → Rep w.heap.size w' F [] [] box0 y v) → BoxOk w.heap.size w' F [] [] box0 (.blk blk cap) (.cells k cs'))
 {e : Ending} {v : Value} {r : AV} (hv : e = .returned v) (hr : Rep w.heap.size w' F [] [] box0 r v) (hΦ : Φ r (b0.set j (.cells k cs'))) :
 ∃ (v : Value) (F' : Nat → Nat) (box1 : List BId) (r : AV) (b1 : List ABox), Φ r b1 ∧ e = .returned v ∧ Keep mo (mask b0 box0) w w' ∧ (∀ b, b < w.heap.size → F' b = F b) ∧ (∀ b, w'.heap.size ≤ b → F' b = 0) ∧
  (∀ (j : Nat) d, box0[j]? = some d → box1[j]? = some d) ∧ box1.length = b1.length ∧
  (∀ (j b c : Nat), box0.length ≤ j → box1[j]? = some (.blk b c) → (w.heap.size ≤ b ∨ ∃ i : Nat, live b0 i ∧ box0[i]? = some (.blk b c)) ∧ b < w'.heap.size) ∧
  (∀ (j b c : Nat), box1[j]? = some (.blk b c) → live b1 j → (box0.length ≤ j ∨ live b0 j) → F' b = 0) ∧
  (∀ (i j b c c' : Nat), box1[i]? = some (.blk b c) → box1[j]? = some (.blk b c') → live b1 i → live b1 j → (box0.length ≤ i ∨ live b0 i) → (box0.length ≤ j ∨ live b0 j) → i = j) ∧
  (∀ (j : Nat) d x, box1[j]? = some d → b1[j]? = some x → (box0.length ≤ j ∨ live b0 j) → BoxOk w.heap.size w' F' [] [] box1 d x) ∧ Rep w.heap.size w' F' [] [] box1 r v := by
 have hlive : live b0 j := fun h => by rw [hl] at h; cases h
 have hF0 := (hbi j blk cap hj).2 hlive
 have hjl := getElem?_lt hl
 have L : Later w F [] [] w' F [] [] := by
  refine ⟨fun b i hi => World.cell?_of_block (w := w) (hk b ?_ (fun h => by rw [h, hF0] at hi; omega)), fun _ => Nat.le_refl _, fun k t s n h => by simp at h⟩
  rcases Nat.lt_or_ge b w.heap.size with h | h
  ·exact h
  ·rw [hout b h] at hi; omega
 have ld : ∀ {i : Nat}, live (b0.set j (.cells k cs')) i ↔ live b0 i := live_set (by simp) hlive
 refine ⟨v, F, box0, r, _, hΦ, hv, ⟨fun _ => hdr, hos, htape, hou, hsz, fun q hq hn => hk q hq (fun h => ?_)⟩, fun _ _ => rfl, fun b hb => hout b (Nat.le_trans hsz hb), fun _ _ h => h, by simpa using hbl,
  fun i b c hi h => (by have := getElem?_lt h; omega), fun i b c hi hli _ => (hbi i b c hi).2 (ld.1 hli), fun i i' b c c' h1 h2 l1 l2 _ _ => hbj i i' b c c' h1 h2 (ld.1 l1) (ld.1 l2), fun i d x hd hx' hin => ?_, hr⟩
 ·subst h
  refine hn j cap ?_
  clear hx hΦ hv hr ld L
  induction b0 generalizing box0 j with
  | nil => simp at hl
  | cons x b ih =>
   cases box0 with
   | nil => simp at hj
   | cons d box =>
    cases j with
    | zero =>
     simp at hl hj
     subst hl; subst hj
     simp [mask]
    | succ j =>
     have h1 : b[j]? = some (.cells k cs) := by simpa using hl
     have h2 : box[j]? = some (.blk q cap) := by simpa using hj
     have aux : ∀ (b : List ABox) (box : List BId) (j : Nat), b[j]? = some (.cells k cs) → box[j]? = some (.blk q cap) → (mask b box)[j]? = some (.blk q cap) := by
      intro b
      induction b with
      | nil => intro box j h; simp at h
      | cons x b ih =>
       intro box j h1 h2
       cases box with
       | nil => simp at h2
       | cons d box =>
        cases j with
        | zero => simp at h1 h2; subst h1; subst h2; simp [mask]
        | succ j => cases x <;> simpa [mask] using ih box j (by simpa using h1) (by simpa using h2)
     cases x <;> simpa [mask] using aux b box j h1 h2
 ·rw [List.getElem?_set] at hx'
  by_cases hij : j = i
  ·subst hij
   rw [if_pos rfl, if_pos hjl] at hx'
   rw [hj] at hd
   cases hx'; cases hd
   exact hx (fun y v h => h.later L (fun _ _ h => h))
  ·rw [if_neg hij] at hx'
   refine (hB i d x hd hx').later L (fun _ _ h => h) (fun b c he hnd => ?_)
   subst he
   refine hk b (hbi i b c hd).1 (fun h => ?_)
   subst h
   exact hij (hbj j i b cap c hj hd hlive (fun h => hnd (by rw [hx'] at h; exact Option.some.inj h)))
theorem gpost_same {w : World} {F : Nat → Nat} {box0 : List BId} {b0 : List ABox} {Φ : AV → List ABox → Prop} (hout : ∀ b, w.heap.size ≤ b → F b = 0) (hbl : box0.length = b0.length)
 (hbi : ∀ (j b c : Nat), box0[j]? = some (.blk b c) → b < w.heap.size ∧ (live b0 j → F b = 0))
 (hbj : ∀ (i j b c c' : Nat), box0[i]? = some (.blk b c) → box0[j]? = some (.blk b c') → live b0 i → live b0 j → i = j)
 (hB : BoxesOk w.heap.size w F [] [] box0 b0) {e : Ending} {v : Value} {r : AV} (hv : e = .returned v) (hr : Rep w.heap.size w F [] [] box0 r v) (hΦ : Φ r b0) :
 ∃ (v : Value) (F' : Nat → Nat) (box1 : List BId) (r : AV) (b1 : List ABox), Φ r b1 ∧ e = .returned v ∧ Keep mo (mask b0 box0) w w ∧ (∀ b, b < w.heap.size → F' b = F b) ∧ (∀ b, w.heap.size ≤ b → F' b = 0) ∧
  (∀ (j : Nat) d, box0[j]? = some d → box1[j]? = some d) ∧ box1.length = b1.length ∧
  (∀ (j b c : Nat), box0.length ≤ j → box1[j]? = some (.blk b c) → (w.heap.size ≤ b ∨ ∃ i : Nat, live b0 i ∧ box0[i]? = some (.blk b c)) ∧ b < w.heap.size) ∧
  (∀ (j b c : Nat), box1[j]? = some (.blk b c) → live b1 j → (box0.length ≤ j ∨ live b0 j) → F' b = 0) ∧
  (∀ (i j b c c' : Nat), box1[i]? = some (.blk b c) → box1[j]? = some (.blk b c') → live b1 i → live b1 j → (box0.length ≤ i ∨ live b0 i) → (box0.length ≤ j ∨ live b0 j) → i = j) ∧
  (∀ (j : Nat) d x, box1[j]? = some d → b1[j]? = some x → (box0.length ≤ j ∨ live b0 j) → BoxOk w.heap.size w F' [] [] box1 d x) ∧ Rep w.heap.size w F' [] [] box1 r v :=
 ⟨v, F, box0, r, b0, hΦ, hv, Keep.refl _ _, fun _ _ => rfl, hout, fun _ _ h => h, hbl, fun i b c hi h => (by have := getElem?_lt h; omega), fun i b c hi hl _ => (hbi i b c hi).2 hl,
  fun i j b c c' h1 h2 l1 l2 _ _ => hbj i j b c c' h1 h2 l1 l2, fun i d x hd hx _ => hB i d x hd hx, hr⟩
theorem putCells_zero {α : Type} [Inhabited α] (enc : α → Value) (d : Array α) (c : Array Value) (h : d.size ≤ c.size) : (putCells enc 0 d c).toList = d.toList.map enc ++ c.toList.drop d.size := by
 apply List.ext_getElem?
 intro i
 rw [Array.getElem?_toList, putCells, Array.getElem?_mapIdx, List.getElem?_append, List.length_map, Array.length_toList]
 by_cases hi : i < d.size
 ·have hc : i < c.size := by omega
  simp [hi, hc, getElem!_pos d i hi]
 ·rw [if_neg hi, List.getElem?_drop, show d.size + (i - d.size) = i by omega, Array.getElem?_toList]
  cases c[i]? with
  | none => rfl
  | some x => simp [hi]
theorem set_self {α : Type} {l : List α} {j : Nat} {x : α} (h : l[j]? = some x) : l.set j x = l := by
 apply List.ext_getElem?
 intro i
 rw [List.getElem?_set]
 split
 ·rename_i hij; subst hij; rw [if_pos (getElem?_lt h), h]
 ·rfl
theorem texts_of_box {B : Nat} {w : World} {F : Nat → Nat} {box : List BId} {b cap t : Nat} {ss : List Str} (h : BoxOk B w F [] [] box (.blk b cap) (.cells (.row t 1) (ss.map .str))) :
 ∃ c : Array Value, w.heap[b]? = some (.cells c t (0, 0)) ∧ ss.length ≤ c.size ∧ (∀ (i : Nat) s, ss[i]? = some s → c[i]? = some (mkS s)) ∧ c.size = cap ∧ cap ≤ maxLen := by
 obtain ⟨c, t', hh, hle, hr, rfl, hcs, hcm⟩ := h
 rw [List.length_map] at hle
 refine ⟨c, hh, hle, fun i s hi => ?_, by omega, hcm⟩
 have hlt := getElem?_lt hi
 have hx := (hr i (.str s) (by rw [List.getElem?_map, hi]; rfl)).1
 have hc : c[i]? = some (c.getD i undef) := by simp [Array.getD, show i < c.size by omega]
 rw [hc]
 generalize c.getD i undef = u at hx
 cases hx; rfl
theorem texts_both {B : Nat} {w : World} {F : Nat → Nat} {box : List BId} (ss : List Str) : Both (Rep B w F [] [] box) (ss.map .str) (ss.map mkS) := by
 refine ⟨by simp, fun i x y hx hy => ?_⟩
 rw [List.getElem?_map] at hx hy
 cases hi : ss[i]? with
 | none => rw [hi] at hx; cases hx
 | some s => rw [hi] at hx hy; cases hx; cases hy; exact .str s
end Abs
end Go.Proofs.YtoindmahilbalaaGreat
namespace Go.Proofs
open Go.Shelf
open Go.Shelf
def Tryz.lays190_ren : Go.Shelf.Ren := ⟨fun | 190 => 180 | 125 => 204 | 258 => 203 | 128 => 220 | 129 => 221 | 302 => 211 | 303 => 212 | 304 => 213 | 305 => 214 | 306 => 215 | 307 => 216 | 308 => 217 | 309 => 218 | 310 => 219 | 333 => 228 | 329 => 229 | 330 => 230 | 334 => 231 | 335 => 232 | 336 => 182 | 344 => 235 | n => n, fun | 31 => 77 | 9 => 9 | 3 => 3 | 46 => 199 | 0 => 0 | 51 => 216 | 53 => 218 | 4 => 4 | 183 => 210 | 182 => 209 | 131 => 168 | 5 => 5 | 218 => 219 | 222 => 223 | 228 => 226 | 229 => 227 | n => n, fun | n => n⟩
theorem Tryz.lays190 : Go.Proofs.Lays.n190 Tryz.prog Tryz.lays190_ren := {
 mixed := by kernel_rfl
 f125 := Tryz.func204.trans (congrArg some (by kernel_rfl))
 f128 := Tryz.func220.trans (congrArg some (by kernel_rfl))
 f129 := Tryz.func221.trans (congrArg some (by kernel_rfl))
 f190 := Tryz.func180.trans (congrArg some (by kernel_rfl))
 f258 := Tryz.func203.trans (congrArg some (by kernel_rfl))
 f302 := Tryz.func211.trans (congrArg some (by kernel_rfl))
 f303 := Tryz.func212.trans (congrArg some (by kernel_rfl))
 f304 := Tryz.func213.trans (congrArg some (by kernel_rfl))
 f305 := Tryz.func214.trans (congrArg some (by kernel_rfl))
 f306 := Tryz.func215.trans (congrArg some (by kernel_rfl))
 f307 := Tryz.func216.trans (congrArg some (by kernel_rfl))
 f308 := Tryz.func217.trans (congrArg some (by kernel_rfl))
 f309 := Tryz.func218.trans (congrArg some (by kernel_rfl))
 f310 := Tryz.func219.trans (congrArg some (by kernel_rfl))
 f329 := Tryz.func229.trans (congrArg some (by kernel_rfl))
 f330 := Tryz.func230.trans (congrArg some (by kernel_rfl))
 f333 := Tryz.func228.trans (congrArg some (by kernel_rfl))
 f334 := Tryz.func231.trans (congrArg some (by kernel_rfl))
 f335 := Tryz.func232.trans (congrArg some (by kernel_rfl))
 f336 := Tryz.func182.trans (congrArg some (by kernel_rfl))
 f344 := Tryz.func235.trans (congrArg some (by kernel_rfl))
 t0 := Tryz.underlying0
 a0 := Tryz.isAgg0
 z0 := Tryz.sizeOf0
 v0 := Tryz.zeroValue0
 t3 := Tryz.underlying3
 a3 := Tryz.isAgg3
 z3 := Tryz.sizeOf3
 v3 := Tryz.zeroValue3
 t4 := Tryz.underlying4
 a4 := Tryz.isAgg4
 z4 := Tryz.sizeOf4
 v4 := Tryz.zeroValue4
 t5 := Tryz.underlying5
 a5 := Tryz.isAgg5
 z5 := Tryz.sizeOf5
 v5 := Tryz.zeroValue5
 t9 := Tryz.underlying9
 a9 := Tryz.isAgg9
 z9 := Tryz.sizeOf9
 v9 := Tryz.zeroValue9
 t31 := Tryz.underlying77
 a31 := Tryz.isAgg77
 z31 := Tryz.sizeOf77
 v31 := Tryz.zeroValue77
 t46 := Tryz.underlying199
 a46 := Tryz.isAgg199
 z46 := Tryz.sizeOf199
 v46 := Tryz.zeroValue199
 t51 := Tryz.underlying216
 a51 := Tryz.isAgg216
 z51 := Tryz.sizeOf216
 v51 := Tryz.zeroValue216
 t53 := Tryz.underlying218
 a53 := Tryz.isAgg218
 z53 := Tryz.sizeOf218
 v53 := Tryz.zeroValue218
 t131 := Tryz.underlying168
 a131 := Tryz.isAgg168
 z131 := Tryz.sizeOf168
 v131 := Tryz.zeroValue168
 t182 := Tryz.underlying209
 a182 := Tryz.isAgg209
 z182 := Tryz.sizeOf209
 v182 := Tryz.zeroValue209
 t183 := Tryz.underlying210
 a183 := Tryz.isAgg210
 z183 := Tryz.sizeOf210
 v183 := Tryz.zeroValue210
 t218 := Tryz.underlying219
 a218 := Tryz.isAgg219
 z218 := Tryz.sizeOf219
 v218 := Tryz.zeroValue219
 t222 := Tryz.underlying223
 a222 := Tryz.isAgg223
 z222 := Tryz.sizeOf223
 v222 := Tryz.zeroValue223
 t228 := Tryz.underlying226
 a228 := Tryz.isAgg226
 z228 := Tryz.sizeOf226
 v228 := Tryz.zeroValue226
 t229 := Tryz.underlying227
 a229 := Tryz.isAgg227
 z229 := Tryz.sizeOf227
 v229 := Tryz.zeroValue227 }
open Go.Sort Go.RowKit in
theorem Tryz.slices_Sort_string (blk off cap : Nat) (ss : List (List UInt8)) (w : World) (hH : Holds encStr w blk off ss.toArray) (hblk : blk < w.heap.size) (hsz : ss.length < 4611686018427387904) :
 Calls Tryz.prog 180 #[.slice (some ⟨blk, off, none⟩) ss.length cap] w fun e w' =>
  e = .returned (.tuple #[]) ∧ ∃ n os, w' = grow (putRow encStr (Sort.ahead w n) blk off (ss.mergeSort fun x y => decide (x ≤ y)).toArray) os := Any.slices_Sort_string Tryz.lays190 blk off cap ss w hH hblk hsz
def Tryz.lays194_ren : Go.Shelf.Ren := ⟨fun | 194 => 181 | n => n, fun | 31 => 77 | 9 => 9 | 3 => 3 | 4 => 4 | 0 => 0 | n => n, fun | n => n⟩
theorem Tryz.lays194 : Go.Proofs.Lays.n194 Tryz.prog Tryz.lays194_ren := {
 mixed := by kernel_rfl
 f194 := Tryz.func181.trans (congrArg some (by kernel_rfl))
 t0 := Tryz.underlying0
 a0 := Tryz.isAgg0
 z0 := Tryz.sizeOf0
 v0 := Tryz.zeroValue0
 t3 := Tryz.underlying3
 a3 := Tryz.isAgg3
 z3 := Tryz.sizeOf3
 v3 := Tryz.zeroValue3
 t4 := Tryz.underlying4
 a4 := Tryz.isAgg4
 z4 := Tryz.sizeOf4
 v4 := Tryz.zeroValue4
 t9 := Tryz.underlying9
 a9 := Tryz.isAgg9
 z9 := Tryz.sizeOf9
 v9 := Tryz.zeroValue9
 t31 := Tryz.underlying77
 a31 := Tryz.isAgg77
 z31 := Tryz.sizeOf77
 v31 := Tryz.zeroValue77 }
open Go.RowKit Go.Lib Go.Sort in
theorem Tryz.slices_Compact_string (blk off cap : Nat) (zs : List (List UInt8)) (w : World) (hH : Holds encStr w blk off zs.toArray) (hsz : zs.length ≤ 9223372036854775807) (hcap : zs.length ≤ cap) :
 Calls Tryz.prog 181 #[.slice (some ⟨blk, off, none⟩) zs.length cap] w fun e w' => e = .returned (.slice (some ⟨blk, off, none⟩) (Lib.compact zs).length cap) ∧ ∃ q, w' = putRow encStr (Sort.ahead w q) blk off (Lib.compact zs ++ List.replicate (zs.length - (Lib.compact zs).length) []).toArray := Any.slices_Compact_string Tryz.lays194 blk off cap zs w hH hsz hcap
open Go.RowKit Go.Lib Go.Sort in
theorem Tryz.slices_Compact_string_empty (a : Option Addr) (cap : Nat) (w : World) :
 Calls Tryz.prog 181 #[.slice a 0 cap] w fun e w' => e = .returned (.slice a 0 cap) ∧ w' = w := Any.slices_Compact_string_empty Tryz.lays194 a cap w
open Go.RowKit Go.Sort in
theorem Tryz.slices_Sort_string_none (p : Option Addr) (cap : Nat) (w : World) :
 Calls Tryz.prog 180 #[.slice p 0 cap] w fun e w' => e = .returned (.tuple #[]) ∧ w' = w := Any.slices_Sort_string_none Tryz.lays190 p cap w
end Go.Proofs
namespace Go.Proofs.YtoindmahilbalaaGreat
open Abs Go.RowKit Go.Sort
def srt (ss : List Str) : List Str := ss.mergeSort fun x y => decide (x ≤ y)
theorem compact_nil : Lib.compact ([] : List Str) = [] := rfl
theorem compact_len (ss : List Str) : (Lib.compact ss).length ≤ ss.length := by
 rw [Lib.compact, Lib.compactUpTo, List.length_map]
 exact Nat.le_trans (List.length_filter_le _ _) (by simp)
theorem holds_texts {w : World} {b t : Nat} {ss : List Str} {c : Array Value} (hh : w.heap[b]? = some (.cells c t (0, 0))) (hc : ∀ (i : Nat) s, ss[i]? = some s → c[i]? = some (mkS s)) : Holds encStr w b 0 ss.toArray := by
 intro i hi
 have hi' : i < ss.length := by simpa using hi
 have h1 := hc i _ (List.getElem?_eq_getElem hi')
 have e1 : ss.toArray[i]! = ss[i] := by simp [hi']
 rw [e1, Nat.zero_add]
 refine ⟨by rw [cell_of_row w b i c t (0, 0) hh, h1]; rfl, ?_⟩
 simp [World.frozen?, hh]
theorem slSort.ctx (b : List ABox) (j : Nat) (ss : List Str) (hj : b[j]? = some (.cells (.row 9 1) (ss.map .str))) (hn : ss.length ≤ 1099511627776) :
 slSort.Ctx b [.bsl j ss.length] (fun r b1 => r = .tup [] ∧ b1 = b.set j (.cells (.row 9 1) ((srt ss).map .str))) := by
 unfold slSort.Ctx
 rw [Ctx_eq]
 refine ⟨by kernel_rfl, fun w F vs box0 hout hbl hbi hbj hB hargs => ?_⟩
 obtain ⟨v0, rfl⟩ : ∃ v0, vs = #[v0] := by
  have := hargs.1
  match vs, this with
  | ⟨[a]⟩, _ => exact ⟨a, rfl⟩
 obtain ⟨h0, _⟩ := Both.cons.1 hargs
 rcases h0.bsl_inv with ⟨bl, cap, hb, hcap, rfl⟩ | ⟨hb, hz, rfl⟩
 ·obtain ⟨c, hh, hle, hc, hcs, hcm⟩ := texts_of_box (hB j _ _ hb hj)
  refine (Tryz.slices_Sort_string bl 0 cap ss w (holds_texts hh hc) (hbi j bl cap hb).1 (by omega)).mono ?_
  rintro e w' ⟨rfl, n, os, hw⟩
  have hlen : (srt ss).length = ss.length := List.length_mergeSort _
  have hh' : w'.heap[bl]? = some (.cells (putCells encStr 0 (srt ss).toArray c) 9 (0, 0)) := by
   rw [hw, heap_grow _ _ _ (by simpa using (hbi j bl cap hb).1)]
   exact heap_putRow encStr (Sort.ahead w n) bl 0 (srt ss).toArray c _ (0, 0) hh
  have hk : ∀ k, k < w.heap.size → k ≠ bl → w'.heap[k]? = w.heap[k]? := fun k hk hkb => by
   rw [hw, heap_grow _ _ _ (by simpa using hk), heap_putRow_other _ _ _ _ _ _ hkb]; rfl
  refine gpost_row (w' := w') (Φ := fun r b1 => r = .tup [] ∧ b1 = b.set j (.cells (.row 9 1) ((srt ss).map .str))) (v := .tuple #[]) (r := .tup []) hout hbl hbi hbj hB hb hj
   (by rw [hw]; simp [grow, putRow, mapBlock, Sort.ahead]) (by rw [hw]; rfl) (by rw [hw]; rfl) (by rw [hw]; rfl) (by rw [hw]; simp) hk (fun _ => ?_) rfl (.tup [] #[] rfl (by simp)) ⟨rfl, rfl⟩
  refine boxOk_row (c := putCells encStr 0 (srt ss).toArray c) (vals := (srt ss).map mkS) (rest := c.toList.drop (srt ss).length) hh' ?_ (texts_both _) (fun u hu => ?_) ?_ hcm
  ·rw [putCells_zero _ _ _ (by simp [hlen]; exact hle)]; simp; intro a _; rfl
  ·obtain ⟨s, _, rfl⟩ := List.mem_map.1 hu; rfl
  ·simp [hlen]; omega
 ·have h0 : ss = [] := List.eq_nil_of_length_eq_zero hz
  subst h0
  refine (Tryz.slices_Sort_string_none none 0 w).mono ?_
  rintro e w' ⟨rfl, rfl⟩
  exact gpost_same hout hbl hbi hbj hB rfl (.tup [] #[] rfl (by simp)) ⟨rfl, by rw [show srt [] = [] by simp [srt], set_self hj]⟩
theorem slCompact.ctx (b : List ABox) (j : Nat) (ss : List Str) (hj : b[j]? = some (.cells (.row 9 1) (ss.map .str))) (hn : ss.length ≤ 1099511627776) :
 slCompact.Ctx b [.bsl j ss.length] (fun r b1 => r = .bsl j (Lib.compact ss).length ∧ b1 = b.set j (.cells (.row 9 1) ((Lib.compact ss).map .str))) := by
 unfold slCompact.Ctx
 rw [Ctx_eq]
 refine ⟨by kernel_rfl, fun w F vs box0 hout hbl hbi hbj hB hargs => ?_⟩
 obtain ⟨v0, rfl⟩ : ∃ v0, vs = #[v0] := by
  have := hargs.1
  match vs, this with
  | ⟨[a]⟩, _ => exact ⟨a, rfl⟩
 obtain ⟨h0, _⟩ := Both.cons.1 hargs
 rcases h0.bsl_inv with ⟨bl, cap, hb, hcap, rfl⟩ | ⟨hb, hz, rfl⟩
 ·obtain ⟨c, hh, hle, hc, hcs, hcm⟩ := texts_of_box (hB j _ _ hb hj)
  have hcl := compact_len ss
  refine (Tryz.slices_Compact_string bl 0 cap ss w (holds_texts hh hc) (by omega) hcap).mono ?_
  rintro e w' ⟨rfl, n, hw⟩
  have hh' : w'.heap[bl]? = some (.cells (putCells encStr 0 (Lib.compact ss ++ List.replicate (ss.length - (Lib.compact ss).length) []).toArray c) 9 (0, 0)) := by
   rw [hw]; exact heap_putRow encStr (Sort.ahead w n) bl 0 _ c _ (0, 0) hh
  have hk : ∀ k, k < w.heap.size → k ≠ bl → w'.heap[k]? = w.heap[k]? := fun k hk hkb => by
   rw [hw, heap_putRow_other _ _ _ _ _ _ hkb]; rfl
  refine gpost_row (w' := w') (Φ := fun r b1 => r = .bsl j (Lib.compact ss).length ∧ b1 = b.set j (.cells (.row 9 1) ((Lib.compact ss).map .str))) (r := .bsl j (Lib.compact ss).length) hout hbl hbi hbj hB hb hj
   (by rw [hw]; simp [putRow, mapBlock, Sort.ahead]) (by rw [hw]; rfl) (by rw [hw]; rfl) (by rw [hw]; rfl) (by rw [hw]; simp) hk (fun _ => ?_) rfl (.bsl j _ bl cap hb (by omega)) ⟨rfl, rfl⟩
  refine boxOk_row (vals := (Lib.compact ss).map mkS) (rest := List.replicate (ss.length - (Lib.compact ss).length) (mkS []) ++ c.toList.drop ss.length) hh' ?_ (texts_both _) (fun u hu => ?_) ?_ hcm
  ·rw [putCells_zero _ _ _ (by simp; omega)]
   simp only [List.map_append, List.map_replicate, List.append_assoc, List.size_toArray, List.length_append, List.length_replicate, Nat.add_sub_cancel' hcl]
   rfl
  ·obtain ⟨s, _, rfl⟩ := List.mem_map.1 hu; rfl
  ·simp; omega
 ·have h0 : ss = [] := List.eq_nil_of_length_eq_zero hz
  subst h0
  refine (Tryz.slices_Compact_string_empty none 0 w).mono ?_
  rintro e w' ⟨rfl, rfl⟩
  exact gpost_same hout hbl hbi hbj hB rfl (.bnil j hb) ⟨by rw [compact_nil]; rfl, by rw [compact_nil, set_self hj]⟩
end Go.Proofs.YtoindmahilbalaaGreat
namespace Go.Proofs.YtoindmahilbalaaGreat
open Abs
structure STO {α : Type} (lt : α → α → Bool) : Prop where
 irrefl : ∀ x, lt x x = false
 trans : ∀ x y z, lt x y = true → lt y z = true → lt x z = true
 tri : ∀ x y, lt x y = false → lt y x = false → x = y
section
variable {α : Type} {lt : α → α → Bool}
theorem STO.asymm (h : STO lt) {x y : α} (hxy : lt x y = true) : lt y x = false := by
 cases hyx : lt y x with
 | false => rfl
 | true => have := h.trans x y x hxy hyx; rw [h.irrefl] at this; cases this
def Asc (lt : α → α → Bool) (l : List α) : Prop := l.Pairwise fun x y => lt x y = true
theorem Asc.nodup (h : STO lt) {l : List α} (hl : Asc lt l) : l.Nodup := hl.imp fun {x y} hxy e => by subst e; rw [h.irrefl] at hxy; cases hxy
theorem Asc.unique (h : STO lt) : ∀ {l m : List α}, Asc lt l → Asc lt m → (∀ x, x ∈ l ↔ x ∈ m) → l = m
 | [], [], _, _, _ => rfl
 | [], y :: m, _, _, hm => absurd ((hm y).2 (by simp)) (by simp)
 | x :: l, [], _, _, hm => absurd ((hm x).1 (by simp)) (by simp)
 | x :: l, y :: m, hl, hr, hm => by
  obtain ⟨h1, h2⟩ := List.pairwise_cons.1 hl
  obtain ⟨h3, h4⟩ := List.pairwise_cons.1 hr
  have hxy : x = y := by
   rcases List.mem_cons.1 ((hm x).1 (by simp)) with e | hx
   ·exact e
   ·rcases List.mem_cons.1 ((hm y).2 (by simp)) with e | hy
    ·exact e.symm
    ·have := h.asymm (h3 x hx); rw [h1 y hy] at this; cases this
  subst hxy
  congr 1
  refine Asc.unique h h2 h4 fun z => ⟨fun hz => ?_, fun hz => ?_⟩
  ·rcases List.mem_cons.1 ((hm z).1 (by simp [hz])) with e | hz'
   ·subst e; have := h1 z hz; rw [h.irrefl] at this; cases this
   ·exact hz'
  ·rcases List.mem_cons.1 ((hm z).2 (by simp [hz])) with e | hz'
   ·subst e; have := h3 z hz; rw [h.irrefl] at this; cases this
   ·exact hz'
def ins (lt : α → α → Bool) (s : α) : Bool → List α → List α
 | d, [] => if d then [] else [s]
 | true, x :: l => x :: ins lt s true l
 | false, x :: l => if lt x s then x :: ins lt s false l else if lt s x then s :: x :: ins lt s true l else x :: ins lt s true l
theorem ins_true (s : α) : ∀ l, ins lt s true l = l
 | [] => rfl
 | x :: l => by rw [ins, ins_true s l]
theorem ins_mem (h : STO lt) (s : α) : ∀ l x, x ∈ ins lt s false l ↔ x = s ∨ x ∈ l
 | [], x => by simp [ins]
 | y :: l, x => by
  rw [ins]
  split
  ·rw [List.mem_cons, ins_mem h s l x, List.mem_cons]
   exact ⟨fun h => by rcases h with h | h | h <;> simp [h], fun h => by rcases h with h | h | h <;> simp [h]⟩
  ·rename_i h1
   split
   ·rw [ins_true]; simp
   ·rename_i h2
    rw [ins_true]
    have : y = s := h.tri y s (by simpa using h1) (by simpa using h2)
    subst this; simp
theorem ins_asc (h : STO lt) (s : α) : ∀ l, Asc lt l → Asc lt (ins lt s false l)
 | [], _ => by simp [ins, Asc]
 | y :: l, hl => by
  obtain ⟨h1, h2⟩ := List.pairwise_cons.1 hl
  rw [ins]
  split
  ·rename_i hy
   refine List.pairwise_cons.2 ⟨fun z hz => ?_, ins_asc h s l h2⟩
   rcases (ins_mem h s l z).1 hz with rfl | hz
   ·exact hy
   ·exact h1 z hz
  ·split
   ·rename_i hs
    rw [ins_true]
    refine List.pairwise_cons.2 ⟨fun z hz => ?_, hl⟩
    rcases List.mem_cons.1 hz with rfl | hz
    ·exact hs
    ·exact h.trans _ _ _ hs (h1 z hz)
   ·rw [ins_true]; exact hl
theorem ins_len (s : α) : ∀ (d : Bool) (l : List α), (ins lt s d l).length ≤ l.length + 1
 | true, l => by rw [ins_true]; omega
 | false, [] => by simp [ins]
 | false, y :: l => by
  have := ins_len s false l
  rw [ins]
  split
  ·simp only [List.length_cons]; omega
  ·split <;> simp [ins_true]
def insAll (lt : α → α → Bool) (l : List α) : List α := l.foldl (fun a s => ins lt s false a) []
theorem insAll_take_succ {l : List α} {i : Nat} (d : α) (h : i < l.length) : insAll lt (l.take (i + 1)) = ins lt (l.getD i d) false (insAll lt (l.take i)) := by
 unfold insAll; exact foldl_take_succ d _ _ h
theorem insAll_asc (h : STO lt) (l : List α) : Asc lt (insAll lt l) := by
 have : ∀ (l a : List α), Asc lt a → Asc lt (l.foldl (fun a s => ins lt s false a) a) := fun l => by
  induction l with
  | nil => exact fun a ha => ha
  | cons x l ih => exact fun a ha => ih _ (ins_asc h x a ha)
 exact this l [] .nil
theorem insAll_mem (h : STO lt) (l : List α) (x : α) : x ∈ insAll lt l ↔ x ∈ l := by
 have : ∀ (l a : List α), x ∈ l.foldl (fun a s => ins lt s false a) a ↔ x ∈ l ∨ x ∈ a := fun l => by
  induction l with
  | nil => simp
  | cons y l ih =>
   intro a
   rw [List.foldl_cons, ih, ins_mem h, List.mem_cons]
   exact ⟨fun h => by rcases h with h | h | h <;> simp [h], fun h => by rcases h with (h | h) | h <;> simp [h]⟩
 unfold insAll; simpa using this l []
theorem insAll_len (l : List α) : (insAll lt l).length ≤ l.length := by
 have : ∀ (l a : List α), (l.foldl (fun a s => ins lt s false a) a).length ≤ a.length + l.length := fun l => by
  induction l with
  | nil => simp
  | cons x l ih => intro a; have := ih (ins lt x false a); have := ins_len (lt := lt) x false a; simp only [List.foldl_cons, List.length_cons] at *; omega
 unfold insAll; simpa using this l []
variable [Inhabited α] [DecidableEq α]
theorem compact_asc (h : STO lt) (l : List α) (hs : l.Pairwise fun x y => lt y x = false) : Asc lt (Lib.compact l) ∧ ∀ x, x ∈ Lib.compact l ↔ x ∈ l := by
 have key : ∀ m, m ≤ l.length → Asc lt (Lib.compactUpTo l.toArray m) ∧ (∀ x, x ∈ Lib.compactUpTo l.toArray m ↔ x ∈ l.take m) := by
  intro m
  induction m with
  | zero => intro _; simp [Lib.compactUpTo, Asc]
  | succ m ih =>
   intro hm
   obtain ⟨i1, i2⟩ := ih (by omega)
   have hml : m < l.length := by omega
   have hgm : l.toArray[m]! = l[m] := by simp [hml]
   have htake : l.take (m + 1) = l.take m ++ [l[m]] := by rw [List.take_succ_eq_append_getElem hml]
   rw [Lib.compactUpTo_succ, htake]
   by_cases hk : Lib.keeps l.toArray m = true
   ·rw [if_pos hk, hgm]
    refine ⟨List.pairwise_append.2 ⟨i1, by simp, fun x hx y hy => ?_⟩, fun x => by rw [List.mem_append, List.mem_append, i2]⟩
    simp only [List.mem_singleton] at hy; subst hy
    have hx' := (i2 x).1 hx
    obtain ⟨i, hi, hix⟩ := List.getElem_of_mem hx'
    have him : i < m := by simp at hi; omega
    have hil : i < l.length := by omega
    have hxl : l[i] = x := by rw [← hix]; simp
    have hpw := List.pairwise_iff_getElem.1 hs
    -- the one before is another one
    have hne : l[m] ≠ l[m - 1] := by
     simp only [Lib.keeps, decide_eq_true_eq] at hk
     rcases hk with hk | hk
     ·omega
     ·rw [hgm] at hk
      have : l.toArray[m - 1]! = l[m - 1] := by simp [show m - 1 < l.length by omega]
      rwa [this] at hk
    have hle1 : lt l[m] l[m - 1] = false := hpw (m - 1) m (by omega) hml (by omega)
    have hlt1 : lt l[m - 1] l[m] = true := by
     cases hc : lt l[m - 1] l[m] with
     | true => rfl
     | false => exact absurd (h.tri _ _ hle1 hc) hne
    by_cases him1 : i = m - 1
    ·subst him1; rw [← hxl]; exact hlt1
    ·have hle2 : lt l[m - 1] l[i] = false := hpw i (m - 1) hil (by omega) (by omega)
     cases hc : lt x l[m] with
     | true => rfl
     | false =>
      exfalso
      rw [← hxl] at hc
      cases hd : lt l[i] l[m - 1] with
      | true => have := h.trans _ _ _ hd hlt1; rw [this] at hc; cases hc
      | false => have := h.tri _ _ hd hle2; rw [this, hlt1] at hc; cases hc
   ·rw [if_neg hk, List.append_nil]
    refine ⟨i1, fun x => ?_⟩
    rw [List.mem_append, i2, List.mem_singleton]
    refine ⟨.inl, fun hx => ?_⟩
    rcases hx with hx | rfl
    ·exact hx
    ·simp only [Lib.keeps, decide_eq_true_eq, not_or, Decidable.not_not] at hk
     have h2 : l.toArray[m - 1]! = l[m - 1] := by simp [show m - 1 < l.length by omega]
     rw [hgm, h2] at hk
     rw [hk.2]
     have h3 : m - 1 < (l.take m).length := by simp; omega
     have h4 : (l.take m)[m - 1] = l[m - 1] := by simp
     rw [← h4]; exact List.getElem_mem h3
 have := key l.length (Nat.le_refl _)
 rw [List.take_length] at this
 exact this
end
def blt (a b : Str) : Bool := Op.bytesLess a b
theorem blt_eq : ∀ a b : Str, blt a b = decide (a < b)
 | _, [] => by simp [blt, Op.bytesLess]
 | [], _ :: _ => by simp [blt, Op.bytesLess]
 | a :: x, b :: y => by
  have ih := blt_eq x y
  rw [blt] at ih ⊢
  rw [Op.bytesLess, ih]
  rw [Bool.eq_iff_iff]
  simp only [Bool.or_eq_true, Bool.and_eq_true, decide_eq_true_eq, beq_iff_eq]
  rw [List.cons_lt_cons_iff]
theorem blt_sto : STO blt where
 irrefl x := by rw [blt_eq]; simp [List.lt_irrefl]
 trans x y z h1 h2 := by rw [blt_eq, decide_eq_true_eq] at *; exact List.lt_trans h1 h2
 tri x y h1 h2 := by
  rw [blt_eq, decide_eq_false_iff_not] at *
  exact List.le_antisymm (List.not_lt.1 h2) (List.not_lt.1 h1)
open Abs
theorem ins_drop {α : Type} {lt : α → α → Bool} {s : α} {l : List α} {i : Nat} (e : α) (d : Bool) (hi : i < l.length) :
 ins lt s d (l.drop i) = if d then l.getD i e :: ins lt s true (l.drop (i + 1)) else if lt (l.getD i e) s then l.getD i e :: ins lt s false (l.drop (i + 1)) else if lt s (l.getD i e) then s :: l.getD i e :: ins lt s true (l.drop (i + 1)) else l.getD i e :: ins lt s true (l.drop (i + 1)) := by
 rw [List.drop_eq_getElem_cons hi]
 have : l.getD i e = l[i] := by simp [List.getD, hi]
 rw [this]
 cases d <;> rfl
theorem sPut.ret (l : List Str) (s : Str) (h : l.length ≤ 1048576) : sPut.Ret [.list none (strs l), .str s] (.list (some 0) (strs (ins blt s false l))) [(9, 1, (ins blt s false l).length)] := by
 refine sPut.ir.of rfl ?_
 repeat' first
  | (conv => whnf
     first | refine Need.mk rfl ?_)
 refine ALoop.mk (Nat × List Str × Bool) (fun a => ⟨[(0, .list none (strs l)), (1, .str s), (5, .list (some 0) (strs a.2.1)), (6, .val (.bool a.2.2)), (7, .val (.int .i64 a.1))], [], [(9, 1, a.2.1.length)]⟩)
  (fun a => a.1 ≤ l.length ∧ (a.2.1.length ≤ a.1 + 1 ∧ (a.2.2 = false → a.2.1.length ≤ a.1)) ∧ a.2.1 ++ ins blt s a.2.2 (l.drop a.1) = ins blt s false l) (fun a => l.length - a.1) ⟨(0, [], false), ⟨Nat.zero_le _, ⟨Nat.zero_le _, fun _ => Nat.zero_le _⟩, rfl⟩, ?_⟩ (fun a ha => ?_)
 ·repeat' first
   | exact trivial | refine wl_ ?_ ?_ ?_ ?_ | refine And.intro ?_ ?_ | with_reducible rfl | exact ble_ | refine fr1 ?_ | refine AV.int_congr ?_ | refine AV.bool_congr ?_ | refine AV.str_congr ?_ | refine AV.list_congr ?_ | (apply rfl)
 obtain ⟨i, o, d⟩ := a
 obtain ⟨h1, h2, h3⟩ := ha
 simp only at h1 h2 h3 ⊢
 repeat' first
  | (conv => whnf
     first | refine Need.mk (fun h => h) ?_ | refine Need.mk rfl ?_ | refine Need.mk ?_ ?_ | refine Ix.strsF rfl ?_ | refine Fork.dec (fun _ => ?_) (fun _ => ?_) | refine Fork.sne (fun _ => ?_) (fun _ => ?_) | refine Fork.neg (fun _ => ?_) (fun _ => ?_) | refine Fork.mk (fun _ => ?_) (fun _ => ?_) | refine Round.mk ?_ | refine Lit.read rfl ?_ | refine Final.mk ?_ ?_)
  | refine AV.list_congr ?_ | refine fr1 ?_
 all_goals try simp only [length_strs, List.length_append, List.length_singleton, List.length_cons, List.length_nil, Int.toNat_natCast] at *
 all_goals try (intro c hc; rw [List.mem_singleton.1 hc]; rfl)
 all_goals try (cases d with
  | true => simp at *; done
  | false => have h4 := h2.2 rfl; constructor <;> omega)
 all_goals try (constructor <;> omega)
 ·have hb := ‹(!d && !Op.bytesLess (l.getD i []) s) = true›
  have hne := ‹l.getD i [] ≠ s›
  obtain ⟨rfl, hlt⟩ : d = false ∧ blt (l.getD i []) s = false := by revert hb; cases d <;> simp [blt]
  rw [ins_drop [] false (by omega), if_neg (by simp), if_neg (by rw [hlt]; simp)] at h3
  have hgt : blt s (l.getD i []) = true := by
   cases hc : blt s (l.getD i []) with
   | true => rfl
   | false => exact absurd (blt_sto.tri _ _ hlt hc) hne
  rw [if_pos hgt] at h3
  refine ⟨(i + 1, o ++ [s] ++ [l.getD i []], true), ⟨by omega, ⟨by have := h2.2 rfl; simp; omega, by simp⟩, by simpa using h3⟩, ?_, by simp only; omega⟩
  repeat' first
   | exact trivial | refine wl_ ?_ ?_ ?_ ?_ | refine And.intro ?_ ?_ | with_reducible rfl | exact ble_ | refine fr1 ?_ | refine AV.int_congr ?_ | refine AV.bool_congr ?_ | refine AV.str_congr ?_ | refine AV.list_congr ?_ | (apply rfl)
  ·rw [strs_append, strs_append]; rfl
  ·rw [wrap64 (by omega) (by omega)]; rfl
  ·simp
 ·have hb := ‹(!d && !Op.bytesLess (l.getD i []) s) = true›
  have he := ‹l.getD i [] = s›
  obtain ⟨rfl, hlt⟩ : d = false ∧ blt (l.getD i []) s = false := by revert hb; cases d <;> simp [blt]
  rw [ins_drop [] false (by omega), if_neg (by simp), if_neg (by rw [hlt]; simp), if_neg (by rw [he, blt_sto.irrefl]; simp)] at h3
  refine ⟨(i + 1, o ++ [l.getD i []], true), ⟨by omega, ⟨by have := h2.2 rfl; simp; omega, by simp⟩, by simpa using h3⟩, ?_, by simp only; omega⟩
  repeat' first
   | exact trivial | refine wl_ ?_ ?_ ?_ ?_ | refine And.intro ?_ ?_ | with_reducible rfl | exact ble_ | refine fr1 ?_ | refine AV.int_congr ?_ | refine AV.bool_congr ?_ | refine AV.str_congr ?_ | refine AV.list_congr ?_ | (apply rfl)
  ·rw [strs_append]; rfl
  ·rw [wrap64 (by omega) (by omega)]; rfl
  ·simp
 ·have hb := ‹(!d && !Op.bytesLess (l.getD i []) s) = false›
  rw [ins_drop [] d (by omega)] at h3
  refine ⟨(i + 1, o ++ [l.getD i []], d), ⟨by omega, ⟨by simp; omega, fun hd => by have := h2.2 hd; simp; omega⟩, ?_⟩, ?_, by simp only; omega⟩
  ·cases d with
   | true => rw [if_pos rfl] at h3; simpa using h3
   | false =>
    have hlt : blt (l.getD i []) s = true := by revert hb; simp [blt]
    rw [if_neg (by simp), if_pos hlt] at h3; simpa using h3
  repeat' first
   | exact trivial | refine wl_ ?_ ?_ ?_ ?_ | refine And.intro ?_ ?_ | with_reducible rfl | exact ble_ | refine fr1 ?_ | refine AV.int_congr ?_ | refine AV.bool_congr ?_ | refine AV.str_congr ?_ | refine AV.list_congr ?_ | (apply rfl)
  ·rw [strs_append]; rfl
  ·rw [wrap64 (by omega) (by omega)]; rfl
  ·simp
 all_goals rw [List.drop_of_length_le (by omega)] at h3
 ·have hd := ‹d = false›
  subst hd
  rw [← h3, strs_append]; rfl
 ·have hd := ‹d = false›
  subst hd
  rw [← h3]; simp [ins]
 ·have hd := ‹d = true›
  subst hd
  rw [← h3]; simp [ins]
 ·have hd := ‹d = true›
  subst hd
  rw [← h3]; simp [ins]
def accS (l : List Str) (i : Nat) : List Str := insAll blt (l.take i)
def frS (l : List Str) (i : Nat) : Fr := (List.range (i + 1)).map fun k => (9, 1, (accS l k).length)
theorem frS_succ (l : List Str) (i : Nat) : frS l (i + 1) = frS l i ++ [(9, 1, (accS l (i + 1)).length)] := by
 unfold frS; rw [List.range_succ (n := i + 1), List.map_append]; rfl
theorem frS_len (l : List Str) (i : Nat) : (frS l i).length = i + 1 := by simp [frS]
theorem srt_asc (l : List Str) : (srt l).Pairwise fun x y => blt y x = false := by
 have h := List.pairwise_mergeSort (le := fun x y : Str => decide (x ≤ y)) (fun a b c h1 h2 => by simp at *; exact List.le_trans h1 h2) (fun a b => by simp; exact List.le_total a b) l
 exact h.imp fun {x y} hxy => by rw [blt_eq, decide_eq_false_iff_not]; simpa using hxy
theorem srt_mem (l : List Str) (x : Str) : x ∈ srt l ↔ x ∈ l := List.mem_mergeSort
theorem compact_srt (l : List Str) : Lib.compact (srt l) = insAll blt l := by
 obtain ⟨h1, h2⟩ := compact_asc blt_sto (srt l) (srt_asc l)
 exact Asc.unique blt_sto h1 (insAll_asc blt_sto l) fun x => by rw [h2, srt_mem, insAll_mem blt_sto]
theorem slClone.own (l : List Str) (h : l.length ≤ 1048576) : slClone.Own [.list none (strs l)] (strT l) :=
 (slClone.ret l h).own [0] (.l _ _ _ 0 (strs l) (by simp) (by simp) (fun e he => by obtain ⟨s, _, rfl⟩ := List.mem_map.1 he; rfl) (strs_sz _) (own_strs _ l) .nil) (by simp)
theorem pSortedTexts.ret (l : List Str) (h : l.length ≤ 1048576) : pSortedTexts.Ret [.list none (strs l)] (.list (some 0) (strs (insAll blt l))) [(9, 1, (insAll blt l).length)] := by
 refine pSortedTexts.ir.of rfl ?_
 conv => whnf
 refine ACall.unb [.list none (strs l)] (strT l) (slClone.own l h) (.cons (SeesB.of0 (Sees0.olds _ _)) .nil) ?_
 rw [gv_strT, gb_strT]
 conv => whnf
 refine ACall.ctx rfl _ _ _ (slSort.ctx [.cells (.row 9 1) (l.map .str)] 0 l rfl (by omega)) (.lend _ _ noTk_texts .nil) (.cons (.inl ⟨rfl, rfl⟩) .nil) ?_
 rintro r b1 ⟨rfl, rfl⟩
 have hlen : (srt l).length = l.length := List.length_mergeSort _
 conv => whnf
 refine ACall.ctx rfl _ _ _ (slCompact.ctx [.cells (.row 9 1) ((srt l).map .str)] 0 (srt l) rfl (by omega)) (.lend _ _ noTk_texts .nil) (.cons (.inl ⟨by rw [hlen]; rfl, rfl⟩) .nil) ?_
 rintro r b1 ⟨rfl, rfl⟩
 rw [compact_srt]
 conv => whnf
 refine FreezeD.flat (Freeze.mk (strs (insAll blt l)) ((insAll blt l).map .str) 9 1 rfl (strs_flatten _).symm (by simp) (strs_sz _) (fun c hc => ?_) ?_)
 ·obtain ⟨s, _, rfl⟩ := List.mem_map.1 hc; rfl
 ·exact Final.mk rfl rfl
open Abs
theorem frS_snoc (m : List Str) (x : Str) : frS (m ++ [x]) (m.length + 1) = frS m m.length ++ [(9, 1, (insAll blt (m ++ [x])).length)] := by
 have h1 : (m ++ [x]).length = m.length + 1 := by simp
 rw [frS_succ]
 congr 1
 ·unfold frS
  refine List.map_congr_left fun k hk => ?_
  have : k ≤ m.length := by have := List.mem_range.1 hk; omega
  simp only [accS, List.take_append_of_le_length this]
 ·rw [accS, ← h1, List.take_length]
theorem ins_snoc (m : List Str) (x : Str) : insAll blt (m ++ [x]) = ins blt x false (insAll blt m) := by
 have h := insAll_take_succ (lt := blt) (l := m ++ [x]) (i := m.length) [] (by simp)
 rw [List.take_of_length_le (by simp), List.take_append_of_le_length (Nat.le_refl _), List.take_length] at h
 rw [h]; simp
def vs (l : List Str) : List Str := l.filter varF
theorem vs_yes {l : List Str} {i : Nat} (hi : i < l.length) (h : varF (l.getD i []) = true) : vs (l.take (i + 1)) = vs (l.take i) ++ [l.getD i []] := by
 rw [take_succ' [] hi, vs, List.filter_append]
 simp only [List.filter_cons, h]; simp [vs]
theorem vs_no {l : List Str} {i : Nat} (hi : i < l.length) (h : varF (l.getD i []) = false) : vs (l.take (i + 1)) = vs (l.take i) := by
 rw [take_succ' [] hi, vs, List.filter_append]
 simp only [List.filter_cons, h]; simp [vs]
theorem vs_len (l : List Str) (i : Nat) : (vs (l.take i)).length ≤ l.length := by
 refine Nat.le_trans (List.length_filter_le _ _) ?_
 rw [List.length_take]; omega
theorem insAll_le (l : List Str) : (insAll blt l).length ≤ l.length := insAll_len l
theorem own_row {mo : Bool} {P : Program} {f : Nat} {args : List AV} {F : Fr} {l : List Str} {k : Nat} (hk : F[k]? = some (9, 1, l.length)) (h : Abs.Ret mo P f args (.list (some k) (strs l)) F) : Abs.Own mo P f args (strT l) := by
 refine h.own [k] ?_ (by simp)
 exact .l _ _ _ k (strs l) (by simpa using hk) (by simp) (fun e he => by obtain ⟨s, _, rfl⟩ := List.mem_map.1 he; rfl) (strs_sz _) (own_strs F l) .nil
theorem sVarsOf.ret (f : VPattern) (h : tPattern.size f ≤ 1048576) : sVarsOf.Ret [.agg (oldL (tPattern.q f))] (.list (some (vs f.2).length) (strs (insAll blt (vs f.2)))) (frS (vs f.2) (vs f.2).length) := by
 refine sVarsOf.ir.of rfl ?_
 have h : tFct.size f ≤ 1048576 := h
 rw [tFct_size, tStrs_size] at h
 repeat' first
  | (conv => whnf
     first | refine Need.mk rfl ?_)
 refine ALoop.mk Nat (fun i => ⟨[(1, .bptr 0 0), (3, .list (some (vs (f.2.take i)).length) (strs (insAll blt (vs (f.2.take i))))), (4, .val (.int .i64 i))], [.cells .var (oldL (tPattern.q f))], frS (vs (f.2.take i)) (vs (f.2.take i)).length⟩) (fun i => i ≤ f.2.length) (fun i => f.2.length - i) ⟨0, Nat.zero_le _, ?_⟩ (fun i hi => ?_)
 ·repeat' first
   | exact trivial | refine wl_ ?_ ?_ ?_ ?_ | refine And.intro ?_ ?_ | exact ble_ | refine fr1 ?_ | refine AV.int_congr ?_ | refine AV.list_congr ?_ | (apply rfl)
 have hlen := vs_len f.2 i
 have hil := insAll_le (vs (f.2.take i))
 repeat' first
  | (conv => whnf
     first | refine Need.mk rfl ?_ | refine Ix.strsF rfl ?_ | refine Fork.dec (fun _ => ?_) (fun _ => ?_) | refine Fork.mk (fun _ => ?_) (fun _ => ?_) | refine Round.mk ?_ | refine Final.mk ?_ ?_ | refine ACall.scalA _ _ (sIsVar.ret _ ?_) rfl ?_ | refine ACall.mkStrs _ _ (sPut.ret _ _ ?_) (by repeat' first | exact SeesL.nil | refine SeesL.cons ?_ ?_ | exact SeesB.of0 (Sees0.val _) | exact SeesB.of0 (Sees0.str _) | exact SeesB.of0 (Sees0.olds _ _) | exact SeesB.of0 (Sees0.old _) | exact SeesB.of0 (Sees0.oldagg _) | exact SeesB.of0 Sees0.nil | exact Sees0.val _ | exact Sees0.str _ | exact Sees0.olds _ _ | exact Sees0.old _ | exact Sees0.oldagg _ | exact Sees0.nil | exact SeesB.of0 (Sees0.any _) | assumption | exact sees_gv _ _ _ (by assumption) (by first | assumption | exact BoxIn.last _ _ | exact BoxIn.more (BoxIn.last _ _) _) | refine SeesB.agg ?_ | refine Sees0.agg ?_ | exact SeesB.of0 (Sees0.clo SeesL.nil SeesL.nil) | exact Sees0.clo SeesL.nil SeesL.nil | exact SeesB.of0 (Sees0.list rfl) | exact Sees0.list rfl) ?_)
 all_goals try simp only [length_rows, length_strs, length_oldLL, List.length_map, Int.toNat_natCast] at *
 ·have := str_le (l := f.2) (i := i) (by omega); omega
 ·omega
 ·rename_i h1 h2
  refine ⟨i + 1, by omega, ?_, by omega⟩
  have hs : (vs (f.2.take i) ++ [f.2.getD i []]).length = (vs (f.2.take i)).length + 1 := by simp
  repeat' first
   | exact trivial | refine wl_ ?_ ?_ ?_ ?_ | refine And.intro ?_ ?_ | exact ble_ | refine AV.int_congr ?_ | (apply rfl)
  ·show AV.list (some (frS (vs (f.2.take i)) (vs (f.2.take i)).length).length) (strs (ins blt (f.2.getD i []) false (insAll blt (vs (f.2.take i))))) = _
   rw [vs_yes (by omega) h1, ins_snoc, frS_len, hs]
  ·rw [wrap64 (by omega) (by omega)]; rfl
  ·rw [vs_yes (by omega) h1, hs, frS_snoc, ins_snoc]
 ·rename_i h1 h2
  refine ⟨i + 1, by omega, ?_, by omega⟩
  repeat' first
   | exact trivial | refine wl_ ?_ ?_ ?_ ?_ | refine And.intro ?_ ?_ | exact ble_ | refine AV.int_congr ?_ | (apply rfl)
  ·rw [vs_no (by omega) h1] <;> rfl
  ·rw [wrap64 (by omega) (by omega)]; rfl
  ·rw [vs_no (by omega) h1]
 ·rw [List.take_of_length_le (by omega)]
 ·rw [List.take_of_length_le (by omega)]
theorem sVarsOf.own (f : VPattern) (h : tPattern.size f ≤ 1048576) : sVarsOf.Own [.agg (oldL (tPattern.q f))] (strT (insAll blt (vs f.2))) := own_row (by simp [frS, accS]) (sVarsOf.ret f h)
theorem vs_sz : ∀ l : List Str, (vs l).length ≤ listSize Ty.str l
 | [] => Nat.le_refl _
 | x :: l => by
  have ih := vs_sz l
  have e : listSize Ty.str (x :: l) = x.length + listSize Ty.str l := rfl
  rw [vs, List.filter_cons, e]
  split
  ·rename_i hv
   have : 1 < x.length := by
    unfold varF at hv
    simp only [Bool.and_eq_true, decide_eq_true_eq] at hv
    omega
   rw [List.length_cons]
   have ih : (List.filter varF l).length ≤ _ := ih
   omega
  ·have ih : (List.filter varF l).length ≤ _ := ih
   omega
theorem pvarsAmong.ret (l : List Str) (h : l.length ≤ 2097152) (hz : listSize Ty.str l ≤ 1048576) : pvarsAmong.Ret [.list none (strs l)] (.list (some 1) (strs (insAll blt (vs l)))) [(9, 1, (vs l).length), (9, 1, (insAll blt (vs l)).length)] := by
 refine pvarsAmong.ir.of rfl ?_
 repeat' first
  | (conv => whnf
     first | refine Need.mk rfl ?_)
 refine ALoop.mk Nat (fun i => ⟨[(0, .list none (strs l)), (3, .list (some 0) (strs (vs (l.take i)))), (7, .list none (strs l)), (8, .val (.int .i64 l.length)), (9, .val (.int .i64 i))], [], [(9, 1, (vs (l.take i)).length)]⟩) (fun i => i ≤ l.length) (fun i => l.length - i) ⟨0, Nat.zero_le _, ?_⟩ (fun i hi => ?_)
 ·repeat' first
   | exact trivial | refine wl_ ?_ ?_ ?_ ?_ | refine And.intro ?_ ?_ | with_reducible rfl | exact ble_ | refine fr1 ?_ | refine AV.int_congr ?_ | refine AV.list_congr ?_ | (apply rfl)
  simp
 have hlen := vs_len l i
 have hvz := Nat.le_trans (vs_sz (l.take i)) (listSize_take_le Ty.str l i)
 repeat' first
  | (conv => whnf
     first | refine Need.mk rfl ?_ | refine Need.mk ?_ ?_ | refine Ix.strsF rfl ?_ | refine Fork.dec (fun _ => ?_) (fun _ => ?_) | refine Fork.mk (fun _ => ?_) (fun _ => ?_) | refine Round.mk ?_ | refine Lit.read rfl ?_ | refine Final.mk ?_ ?_ | refine ACall.scalA _ _ (pIsVar.ret _ ?_) rfl ?_ | refine ACall.mkStrs _ _ (pSortedTexts.ret _ ?_) (by repeat' first | exact SeesL.nil | refine SeesL.cons ?_ ?_ | exact SeesB.of0 (Sees0.val _) | exact SeesB.of0 (Sees0.str _) | exact SeesB.of0 (Sees0.olds _ _) | exact SeesB.of0 (Sees0.old _) | exact SeesB.of0 (Sees0.oldagg _) | exact SeesB.of0 Sees0.nil | exact Sees0.val _ | exact Sees0.str _ | exact Sees0.olds _ _ | exact Sees0.old _ | exact Sees0.oldagg _ | exact Sees0.nil | exact SeesB.of0 (Sees0.any _) | assumption | exact sees_gv _ _ _ (by assumption) (by first | assumption | exact BoxIn.last _ _ | exact BoxIn.more (BoxIn.last _ _) _) | refine SeesB.agg ?_ | refine Sees0.agg ?_ | exact SeesB.of0 (Sees0.clo SeesL.nil SeesL.nil) | exact Sees0.clo SeesL.nil SeesL.nil | exact SeesB.of0 (Sees0.list rfl) | exact Sees0.list rfl) ?_)
  | refine AV.list_congr ?_ | refine fr2 ?_ ?_
 all_goals try simp only [length_rows, length_strs, length_oldLL, List.length_map, Int.toNat_natCast] at *
 ·have := str_le (l := l) (i := i) (by omega); omega
 ·intro c hc; rw [List.mem_singleton.1 hc]; rfl
 ·simp only [List.length_singleton]; omega
 ·rename_i h1 h2
  refine ⟨i + 1, by omega, ?_, by omega⟩
  repeat' first
   | exact trivial | refine wl_ ?_ ?_ ?_ ?_ | refine And.intro ?_ ?_ | with_reducible rfl | exact ble_ | refine fr1 ?_ | refine AV.int_congr ?_ | refine AV.list_congr ?_ | (apply rfl)
  ·rw [vs_yes (by omega) h2, strs_append] <;> rfl
  ·rw [wrap64 (by omega) (by omega)]; rfl
  ·rw [vs_yes (by omega) h2, List.length_append] <;> rfl
 ·rename_i h1 h2
  refine ⟨i + 1, by omega, ?_, by omega⟩
  repeat' first
   | exact trivial | refine wl_ ?_ ?_ ?_ ?_ | refine And.intro ?_ ?_ | with_reducible rfl | exact ble_ | refine fr1 ?_ | refine AV.int_congr ?_ | refine AV.list_congr ?_ | (apply rfl)
  ·rw [vs_no (by omega) h2] <;> rfl
  ·rw [wrap64 (by omega) (by omega)]; rfl
  ·rw [vs_no (by omega) h2]
 ·omega
 all_goals rw [List.take_of_length_le (by omega)]
theorem pVarsOf.ret (f : VPattern) (h : tPattern.size f ≤ 1048576) : pVarsOf.Ret [.agg (oldL (tPattern.q f))] (.list (some 1) (strs (insAll blt (vs f.2)))) [(9, 1, (vs f.2).length), (9, 1, (insAll blt (vs f.2)).length)] := by
 refine pVarsOf.ir.of rfl ?_
 have h : tFct.size f ≤ 1048576 := h
 rw [tFct_size, tStrs_size] at h
 repeat' first
  | (conv => whnf
     first | refine Final.mk ?_ rfl | refine ACall.mkR _ _ _ (pvarsAmong.ret _ ?_ ?_) ?_)
  | refine AV.list_congr ?_
 ·omega
 ·omega
 ·exact mapTLL_old _ _
theorem pVarsOf.own (f : VPattern) (h : tPattern.size f ≤ 1048576) : pVarsOf.Own [.agg (oldL (tPattern.q f))] (strT (insAll blt (vs f.2))) := own_row rfl (pVarsOf.ret f h)
theorem notin_succ {l : List Str} {x : Str} {i : Nat} (hi : i < l.length) (h : x ∉ l.take i) (hc : l.getD i [] ≠ x) : x ∉ l.take (i + 1) := by
 rw [take_succ' [] hi, List.mem_append, List.mem_singleton]
 rintro (h1 | h1)
 ·exact h h1
 ·exact hc h1.symm
theorem in_of {l : List Str} {x : Str} {i : Nat} (hi : i < l.length) (h : l.getD i [] = x) : x ∈ l := by
 rw [← h]; simp [List.getD, hi]
theorem sHasText.ret (l : List Str) (x : Str) (h : l.length ≤ 1048576) : sHasText.Ret [.list none (strs l), .str x] (.val (.bool (decide (x ∈ l)))) [] := by
 refine sHasText.ir.of rfl ?_
 skip
 refine ALoop.mk Nat (fun i => ⟨[(0, .list none (strs l)), (1, .str x), (5, .val (.int .i64 i))], [], []⟩) (fun i => i ≤ l.length ∧ x ∉ l.take i) (fun i => l.length - i) ⟨0, ⟨Nat.zero_le _, by simp⟩, ?_⟩ (fun i hi => ?_)
 ·repeat' first
   | exact trivial | refine wl_ ?_ ?_ ?_ ?_ | refine And.intro ?_ ?_ | with_reducible rfl | exact ble_ | refine AV.int_congr ?_ | refine AV.str_congr ?_ | refine AV.list_congr ?_ | (apply rfl)
 repeat' first
  | (conv => whnf
     first | refine Need.mk rfl ?_ | refine Ix.strsF rfl ?_ | refine Fork.dec (fun _ => ?_) (fun _ => ?_) | refine Fork.seq (fun _ => ?_) (fun _ => ?_) | refine Round.mk ?_ | refine FinVal.keep ?_ | refine Final.mk ?_ rfl)
  | refine AV.bool_congr ?_
 all_goals try simp only [length_rows, length_strs, length_oldLL, List.length_map, Int.toNat_natCast] at *
 ·rename_i h1 h2
  simp [in_of (by omega) h1]
 ·rename_i h1 h2
  refine ⟨i + 1, ⟨by omega, notin_succ (by omega) hi.2 h1⟩, ?_, by omega⟩
  repeat' first
   | exact trivial | refine wl_ ?_ ?_ ?_ ?_ | refine And.intro ?_ ?_ | with_reducible rfl | exact ble_ | refine AV.int_congr ?_ | refine AV.str_congr ?_ | refine AV.list_congr ?_ | (apply rfl)
  rw [wrap64 (by omega) (by omega)]; rfl
 ·have := hi.2
  rw [List.take_of_length_le (by omega)] at this
  simp [this]
def idxS : List Str → Str → Int → Int
 | [], _, _ => -1
 | g :: l, f, n => if g = f then n else idxS l f (n + 1)
theorem idxS_drop {l : List Str} {f : Str} {i : Nat} (hi : i < l.length) : idxS (l.drop i) f i = if l.getD i [] = f then (i : Int) else idxS (l.drop (i + 1)) f ((i + 1 : Nat) : Int) := by
 rw [List.drop_eq_getElem_cons hi, idxS]
 simp [List.getD, hi]
theorem idxS_in : ∀ (l : List Str) (x : Str) (n : Int), 0 ≤ n → (0 ≤ idxS l x n ↔ x ∈ l)
 | [], _, _, _ => by simp [idxS]
 | g :: l, x, n, hn => by
  rw [idxS]
  split
  ·rename_i h; simp [h, hn]
  ·rename_i h; rw [idxS_in l x (n + 1) (by omega)]; simp [Ne.symm h]
theorem slIndex.ret (l : List Str) (x : Str) (h : l.length ≤ 1048576) : slIndex.Ret [.list none (strs l), .str x] (.val (.int .i64 (idxS l x 0))) [] := by
 refine slIndex.ir.of rfl ?_
 skip
 refine ALoop.mk Nat (fun i => ⟨[(0, .list none (strs l)), (1, .str x), (7, .val (.int .i64 l.length)), (8, .val (.int .i64 i))], [], []⟩) (fun i => i ≤ l.length ∧ idxS (l.drop i) x i = idxS l x 0) (fun i => l.length - i) ⟨0, ⟨Nat.zero_le _, rfl⟩, ?_⟩ (fun i hi => ?_)
 ·repeat' first
   | exact trivial | refine wl_ ?_ ?_ ?_ ?_ | refine And.intro ?_ ?_ | with_reducible rfl | exact ble_ | refine AV.int_congr ?_ | refine AV.str_congr ?_ | refine AV.list_congr ?_ | (apply rfl)
  simp
 repeat' first
  | (conv => whnf
     first | refine Need.mk rfl ?_ | refine Ix.strsF rfl ?_ | refine Fork.dec (fun _ => ?_) (fun _ => ?_) | refine Fork.seq (fun _ => ?_) (fun _ => ?_) | refine Round.mk ?_ | refine FinVal.keep ?_ | refine Final.mk ?_ rfl)
  | refine AV.int_congr ?_
 all_goals try simp only [length_rows, length_strs, length_oldLL, List.length_map, Int.toNat_natCast] at *
 ·rename_i h1 h2
  rw [← hi.2, idxS_drop (by omega), if_pos h2.symm]
 ·rename_i h1 h2
  have h3 := hi.2
  rw [idxS_drop (by omega), if_neg (fun e => h2 e.symm)] at h3
  refine ⟨i + 1, ⟨by omega, h3⟩, ?_, by omega⟩
  repeat' first
   | exact trivial | refine wl_ ?_ ?_ ?_ ?_ | refine And.intro ?_ ?_ | with_reducible rfl | exact ble_ | refine AV.int_congr ?_ | refine AV.str_congr ?_ | refine AV.list_congr ?_ | (apply rfl)
  rw [wrap64 (by omega) (by omega)]; rfl
 ·rw [← hi.2, List.drop_eq_nil_of_le (by omega)]; rfl
theorem slContains.ret (l : List Str) (x : Str) (h : l.length ≤ 1048576) : slContains.Ret [.list none (strs l), .str x] (.val (.bool (decide (x ∈ l)))) [] := by
 refine slContains.ir.of rfl ?_
 repeat' first
  | (conv => whnf
     first | refine Need.mk rfl ?_ | refine FinVal.keep ?_ | refine Final.mk ?_ rfl | refine ACall.scalA _ _ (slIndex.ret _ _ ?_) rfl ?_)
  | refine AV.bool_congr ?_
 ·exact h
 ·rw [Bool.eq_iff_iff]; simpa using idxS_in l x 0 (by omega)
end Go.Proofs.YtoindmahilbalaaGreat
namespace Go.Proofs
open Go.RowKit Go.Maps Go.Sort Go.Shelf
def Tryz.keys208_ren : Go.Shelf.Ren := ⟨fun | 7 => 208 | 10 => 223 | n => n, fun | 23 => 180 | 26 => 9 | 3 => 9 | 28 => 203 | 0 => 0 | 27 => 202 | 33 => 112 | 4 => 4 | n => n, fun | n => n⟩
theorem Tryz.keys208 : Go.Proofs.SlLaysZ.n7 Tryz.prog Tryz.keys208_ren := {
 mixed := by kernel_rfl
 f7 := ⟨Tryz.f208.name, by decide, Tryz.func208.trans (congrArg some (by kernel_rfl))⟩
 f10 := ⟨Tryz.f223.name, by decide, Tryz.func223.trans (congrArg some (by kernel_rfl))⟩
 t0 := Tryz.underlying0
 a0 := Tryz.isAgg0
 z0 := Tryz.sizeOf0
 v0 := Tryz.zeroValue0
 t4 := Tryz.underlying4
 a4 := Tryz.isAgg4
 z4 := Tryz.sizeOf4
 v4 := Tryz.zeroValue4
 t23 := Tryz.underlying180
 a23 := Tryz.isAgg180
 z23 := Tryz.sizeOf180
 v23 := Tryz.zeroValue180
 t26 := Tryz.underlying9
 a26 := Tryz.isAgg9
 z26 := Tryz.sizeOf9
 v26 := Tryz.zeroValue9
 t27 := Tryz.underlying202
 a27 := Tryz.isAgg202
 z27 := Tryz.sizeOf202
 v27 := Tryz.zeroValue202
 t28 := Tryz.underlying203
 a28 := Tryz.isAgg203
 z28 := Tryz.sizeOf203
 v28 := Tryz.zeroValue203
 t33 := Tryz.underlying112
 a33 := Tryz.isAgg112
 z33 := Tryz.sizeOf112
 v33 := Tryz.zeroValue112 }
def Tryz.sorted207_ren : Go.Shelf.Ren := ⟨fun | 6 => 207 | 8 => 222 | 9 => 180 | 11 => 233 | 13 => 204 | 12 => 203 | 23 => 220 | 24 => 221 | 14 => 211 | 15 => 212 | 16 => 213 | 17 => 214 | 18 => 215 | 19 => 216 | 20 => 217 | 21 => 218 | 22 => 219 | 25 => 228 | 26 => 229 | 27 => 230 | 28 => 231 | 29 => 232 | 30 => 182 | 31 => 235 | n => n, fun | 26 => 9 | 28 => 203 | 24 => 77 | 0 => 0 | 3 => 3 | 37 => 199 | 48 => 216 | 50 => 218 | 4 => 4 | 40 => 210 | 39 => 209 | 45 => 168 | 5 => 5 | 9 => 9 | 51 => 219 | 55 => 223 | 57 => 226 | 58 => 227 | 33 => 112 | n => n, fun | n => n⟩
theorem Tryz.sorted207 : Go.Proofs.SlLaysZ.n6 Tryz.prog Tryz.sorted207_ren := {
 mixed := by kernel_rfl
 f6 := ⟨Tryz.f207.name, by decide, Tryz.func207.trans (congrArg some (by kernel_rfl))⟩
 f8 := ⟨Tryz.f222.name, by decide, Tryz.func222.trans (congrArg some (by kernel_rfl))⟩
 f11 := ⟨Tryz.f233.name, by decide, Tryz.func233.trans (congrArg some (by kernel_rfl))⟩
 t0 := Tryz.underlying0
 a0 := Tryz.isAgg0
 z0 := Tryz.sizeOf0
 v0 := Tryz.zeroValue0
 t24 := Tryz.underlying77
 a24 := Tryz.isAgg77
 z24 := Tryz.sizeOf77
 v24 := Tryz.zeroValue77
 t26 := Tryz.underlying9
 a26 := Tryz.isAgg9
 z26 := Tryz.sizeOf9
 v26 := Tryz.zeroValue9
 t28 := Tryz.underlying203
 a28 := Tryz.isAgg203
 z28 := Tryz.sizeOf203
 v28 := Tryz.zeroValue203
 i26 := by kernel_rfl }
def Tryz.sort180_ren : Go.Shelf.Ren := ⟨fun | 6 => 180 | 8 => 204 | 9 => 203 | 19 => 220 | 20 => 221 | 21 => 211 | 22 => 212 | 23 => 213 | 24 => 214 | 25 => 215 | 26 => 216 | 27 => 217 | 28 => 218 | 29 => 219 | 36 => 228 | 31 => 229 | 32 => 230 | 37 => 231 | 38 => 232 | 39 => 182 | 41 => 235 | n => n, fun | 27 => 77 | 29 => 9 | 3 => 3 | 32 => 199 | 26 => 77 | 0 => 0 | 44 => 216 | 46 => 218 | 4 => 4 | 36 => 210 | 35 => 209 | 41 => 168 | 5 => 5 | 9 => 9 | 53 => 219 | 57 => 223 | 63 => 226 | 64 => 227 | n => n, fun | n => n⟩
theorem Tryz.sort180 : Go.Proofs.SlLaysM.n6 Tryz.prog Tryz.sort180_ren := {
 mixed := by kernel_rfl
 f6 := ⟨Tryz.f180.name, by decide, Tryz.func180.trans (congrArg some (by kernel_rfl))⟩
 f8 := Tryz.func204.trans (congrArg some (by kernel_rfl))
 f9 := ⟨Tryz.f203.name, by decide, Tryz.func203.trans (congrArg some (by kernel_rfl))⟩
 f19 := Tryz.func220.trans (congrArg some (by kernel_rfl))
 f20 := Tryz.func221.trans (congrArg some (by kernel_rfl))
 f21 := ⟨Tryz.f211.name, by decide, Tryz.func211.trans (congrArg some (by kernel_rfl))⟩
 f22 := ⟨Tryz.f212.name, by decide, Tryz.func212.trans (congrArg some (by kernel_rfl))⟩
 f23 := ⟨Tryz.f213.name, by decide, Tryz.func213.trans (congrArg some (by kernel_rfl))⟩
 f24 := ⟨Tryz.f214.name, by decide, Tryz.func214.trans (congrArg some (by kernel_rfl))⟩
 f25 := ⟨Tryz.f215.name, by decide, Tryz.func215.trans (congrArg some (by kernel_rfl))⟩
 f26 := ⟨Tryz.f216.name, by decide, Tryz.func216.trans (congrArg some (by kernel_rfl))⟩
 f27 := ⟨Tryz.f217.name, by decide, Tryz.func217.trans (congrArg some (by kernel_rfl))⟩
 f28 := ⟨Tryz.f218.name, by decide, Tryz.func218.trans (congrArg some (by kernel_rfl))⟩
 f29 := ⟨Tryz.f219.name, by decide, Tryz.func219.trans (congrArg some (by kernel_rfl))⟩
 f31 := Tryz.func229.trans (congrArg some (by kernel_rfl))
 f32 := Tryz.func230.trans (congrArg some (by kernel_rfl))
 f36 := ⟨Tryz.f228.name, by decide, Tryz.func228.trans (congrArg some (by kernel_rfl))⟩
 f37 := ⟨Tryz.f231.name, by decide, Tryz.func231.trans (congrArg some (by kernel_rfl))⟩
 f38 := ⟨Tryz.f232.name, by decide, Tryz.func232.trans (congrArg some (by kernel_rfl))⟩
 f39 := ⟨Tryz.f182.name, by decide, Tryz.func182.trans (congrArg some (by kernel_rfl))⟩
 f41 := ⟨Tryz.f235.name, by decide, Tryz.func235.trans (congrArg some (by kernel_rfl))⟩
 t0 := Tryz.underlying0
 a0 := Tryz.isAgg0
 z0 := Tryz.sizeOf0
 v0 := Tryz.zeroValue0
 t3 := Tryz.underlying3
 a3 := Tryz.isAgg3
 z3 := Tryz.sizeOf3
 v3 := Tryz.zeroValue3
 t4 := Tryz.underlying4
 a4 := Tryz.isAgg4
 z4 := Tryz.sizeOf4
 v4 := Tryz.zeroValue4
 t5 := Tryz.underlying5
 a5 := Tryz.isAgg5
 z5 := Tryz.sizeOf5
 v5 := Tryz.zeroValue5
 t9 := Tryz.underlying9
 a9 := Tryz.isAgg9
 z9 := Tryz.sizeOf9
 v9 := Tryz.zeroValue9
 t26 := Tryz.underlying77
 a26 := Tryz.isAgg77
 z26 := Tryz.sizeOf77
 v26 := Tryz.zeroValue77
 t27 := Tryz.underlying77
 a27 := Tryz.isAgg77
 z27 := Tryz.sizeOf77
 v27 := Tryz.zeroValue77
 t29 := Tryz.underlying9
 a29 := Tryz.isAgg9
 z29 := Tryz.sizeOf9
 v29 := Tryz.zeroValue9
 t32 := Tryz.underlying199
 a32 := Tryz.isAgg199
 z32 := Tryz.sizeOf199
 v32 := Tryz.zeroValue199
 t35 := Tryz.underlying209
 a35 := Tryz.isAgg209
 z35 := Tryz.sizeOf209
 v35 := Tryz.zeroValue209
 t36 := Tryz.underlying210
 a36 := Tryz.isAgg210
 z36 := Tryz.sizeOf210
 v36 := Tryz.zeroValue210
 t41 := Tryz.underlying168
 a41 := Tryz.isAgg168
 z41 := Tryz.sizeOf168
 v41 := Tryz.zeroValue168
 t44 := Tryz.underlying216
 a44 := Tryz.isAgg216
 z44 := Tryz.sizeOf216
 v44 := Tryz.zeroValue216
 t46 := Tryz.underlying218
 a46 := Tryz.isAgg218
 z46 := Tryz.sizeOf218
 v46 := Tryz.zeroValue218
 t53 := Tryz.underlying219
 a53 := Tryz.isAgg219
 z53 := Tryz.sizeOf219
 v53 := Tryz.zeroValue219
 t57 := Tryz.underlying223
 a57 := Tryz.isAgg223
 z57 := Tryz.sizeOf223
 v57 := Tryz.zeroValue223
 t63 := Tryz.underlying226
 a63 := Tryz.isAgg226
 z63 := Tryz.sizeOf226
 v63 := Tryz.zeroValue226
 t64 := Tryz.underlying227
 a64 := Tryz.isAgg227
 z64 := Tryz.sizeOf227
 v64 := Tryz.zeroValue227 }
theorem Tryz.sorts207 (m : Nat) : AnyZ.SortsIn Tryz.prog Tryz.sorted207_ren Fence.wide m :=
 ⟨fun blk off cap ss W hH hblk hsz => callsIn_wide.2 (AnyM.slices_Sort_string Tryz.sort180 blk off cap ss W hH hblk hsz),
  fun p cap W => callsIn_wide.2 (AnyM.slices_Sort_string_none Tryz.sort180 p cap W)⟩
set_option maxHeartbeats 1000000 in
theorem Tryz.sortedKeysAt {H : Type} (c b nn : Nat) (D0 : DataW H) (R : Value → Option (DataW H × List MemPlace)) (w : World) (hcs : c < w.heap.size) (hc : w.cell? ⟨c, 0, none⟩ = some (.map (some b))) (hown : w.ownsMap Tryz.prog 9 R b nn D0) (hmax : Maps.size D0 ≤ maxLen) (hbytes : Maps.size D0 * 16 ≤ 140737488355328) :
 CallsIn Fence.wide 5 Tryz.prog 207 #[.func (.func 223) #[] #[.pointer (some ⟨c, 0, none⟩)]] w fun e w' => ∃ (v : Value) (ss : List (List UInt8)), e = .returned v ∧ ss.Perm (strKeys D0) ∧
  w'.ownsRow w.heap.size 9 1 v ss.length ((ss.mergeSort (fun x y => decide (x ≤ y))).map encStr) ∧ (v = .slice none 0 0 ↔ ss = []) ∧ Below w.heap.size w w' := by
 have hseq : SeqGives Fence.wide 2 Tryz.prog 223 #[.pointer (some ⟨c, 0, none⟩)] encStr (fun ss => ss.Perm (strKeys D0)) (Maps.size D0) w :=
  AnyZ.keys_gives (ρ := Tryz.keys208_ren) { Tryz.keys208 with } Fence.wide _ trivial rfl (by omega) c b nn D0 w hcs hc hown
 exact AnyZ.sorted_in Tryz.sorted207 Fence.wide 5 trivial trivial trivial trivial rfl (by omega) (Tryz.sorts207 _) (enters_of Tryz.func180 (by kernel_rfl) rfl) 223 #[.pointer (some ⟨c, 0, none⟩)] trivial (enters_of Tryz.func223 (by kernel_rfl) rfl) _ _ hmax hbytes _ hseq
end Go.Proofs
namespace Go.Proofs.YtoindmahilbalaaGreat
open Abs Go.RowKit
theorem strs_get2 {l : List Str} {i j : Nat} {e : List AV} {c : AV} (hi : (strs l)[i]? = some e) (hj : e[j]? = some c) : ∃ s, l[i]? = some s ∧ j = 0 ∧ c = .str s := by
 rw [strs_eq, List.getElem?_map] at hi
 obtain ⟨s, hs, rfl⟩ := Option.map_eq_some_iff.1 hi
 cases j with
 | zero => simp at hj; exact ⟨s, hs, rfl, hj.symm⟩
 | succ j => simp at hj
theorem lent_strs {T : TypeId} {w w' : World} {F : Nat → Nat} {box0 : List BId} {b0 : List ABox} {Φ : AV → List ABox → Fr → Prop} {v : Value} {l : List Str} (hd : noDead b0 = true)
 (hout : ∀ b, w.heap.size ≤ b → F b = 0) (hbl : box0.length = b0.length) (hbi : ∀ (j b c : Nat), box0[j]? = some (.blk b c) → b < w.heap.size ∧ (live b0 j → F b = 0))
 (hbj : ∀ (i j b c c' : Nat), box0[i]? = some (.blk b c) → box0[j]? = some (.blk b c') → live b0 i → live b0 j → i = j) (hB : BoxesOk w.heap.size w F [] [] box0 b0)
 (hrow : w'.ownsRow w.heap.size T 1 v l.length (l.map encStr)) (hw : Below w.heap.size w w') (hΦ : Φ (.list (some 0) (strs l)) b0 [(T, 1, l.length)]) :
 ∃ (u : Value) (F' : Nat → Nat) (box1 : List BId) (tok : List (Option Nat)) (frs : Fr) (r : AV) (b1 : List ABox), Φ r b1 frs ∧ Ending.returned v = .returned u ∧ Keep false (mask b0 box0) w w' ∧ (∀ b, b < w.heap.size → F' b = F b) ∧ (∀ b, w'.heap.size ≤ b → F' b = 0) ∧
  (∀ (j : Nat) d, box0[j]? = some d → box1[j]? = some d) ∧ box1.length = b1.length ∧
  (∀ (j b c : Nat), box0.length ≤ j → box1[j]? = some (.blk b c) → (w.heap.size ≤ b ∨ ∃ i : Nat, live b0 i ∧ box0[i]? = some (.blk b c)) ∧ b < w'.heap.size) ∧
  (∀ (j b c : Nat), box1[j]? = some (.blk b c) → live b1 j → (box0.length ≤ j ∨ live b0 j) → F' b = 0) ∧
  (∀ (i j b c c' : Nat), box1[i]? = some (.blk b c) → box1[j]? = some (.blk b c') → live b1 i → live b1 j → (box0.length ≤ i ∨ live b0 i) → (box0.length ≤ j ∨ live b0 j) → i = j) ∧
  (∀ (j : Nat) d x, box1[j]? = some d → b1[j]? = some x → (box0.length ≤ j ∨ live b0 j) → BoxOk w.heap.size w' F' [] [] box1 d x) ∧
  tok.length = frs.length ∧ (∀ (k b : Nat), tok[k]? = some (some b) → w.heap.size ≤ b ∧ b < w'.heap.size) ∧ (∀ (k l b : Nat), tok[k]? = some (some b) → tok[l]? = some (some b) → k = l) ∧
  (∀ (k b j c : Nat), tok[k]? = some (some b) → box1[j]? = some (.blk b c) → ¬ live b1 j) ∧ Rep w.heap.size w' F' tok frs box1 r u := by
 have hlv := noDead_live hd
 have hk : Keep false (mask b0 box0) w w' := ⟨(fun h => nomatch h), hw.os, hw.tape, hw.output, hw.size, fun k hk _ => hw.block k hk⟩
 obtain ⟨a, cap, hv, hcap, hnew, hne⟩ : ∃ (a : Option Addr) (cap : Nat), v = .slice a l.length cap ∧ l.length ≤ cap ∧ (∀ g, a.map (·.block) = some g → w.heap.size ≤ g ∧ g < w'.heap.size) ∧ (l ≠ [] → ∃ g cur, a = some ⟨g, 0, none⟩ ∧ w'.heap[g]? = some (.cells cur T (0, 0)) ∧ cur.toList.take l.length = l.map encStr) := by
  rcases hrow.2 with ⟨hv, hn⟩ | ⟨g, cap, cur, hv, hbase, hh, h1, h2, h3, h4⟩
  ·have hl : l = [] := List.eq_nil_of_length_eq_zero hn
   subst hl
   exact ⟨none, 0, hv, Nat.le_refl _, by simp, fun h => (h rfl).elim⟩
  ·refine ⟨some ⟨g, 0, none⟩, cap, hv, h1, fun b hb => ?_, fun _ => ⟨g, cur, rfl, hh, by simpa using h4⟩⟩
   cases hb
   exact ⟨hbase, (Array.getElem?_eq_some_iff.1 hh).1⟩
 subst hv
 obtain ⟨F', hF'⟩ : ∃ F' : Nat → Nat, ∀ b, F' b = if a.map (·.block) = some b then l.length else F b := ⟨_, fun _ => rfl⟩
 refine ⟨_, F', box0, [a.map (·.block)], [(T, 1, l.length)], _, b0, hΦ, rfl, hk, fun b hb => ?_, fun b hb => ?_, fun _ _ h => h, hbl, fun j b c h1 h2 => ?_, fun j b c h1 h2 _ => ?_, fun i j b c c' h1 h2 h3 h4 _ _ => hbj i j b c c' h1 h2 h3 h4, fun j d x hd' hx _ => ?_, rfl, fun k b hkb => ?_, fun k q b h1 h2 => ?_, fun k b j c h1 h2 => ?_, ?_⟩
 ·rw [hF']; split
  ·rename_i h; have := (hnew b h).1; omega
  ·rfl
 ·rw [hF']; split
  ·rename_i h; have := (hnew b h).2; omega
  ·exact hout b (Nat.le_trans hw.size hb)
 ·have := getElem?_lt h2; omega
 ·have := hbi j b c h1
  rw [hF']; split
  ·rename_i h; have := (hnew b h).1; omega
  ·exact this.2 (hlv j)
 ·refine (hB j d x hd' hx).later (F := F) ⟨fun b i hi => ?_, fun b => ?_, fun k t s n h => by simp at h⟩ (fun _ _ h => h) (fun b c he _ => hw.block b (hbi j b c (he ▸ hd')).1)
  ·have hlt : b < w.heap.size := by
    rcases Nat.lt_or_ge b w.heap.size with h | h
    ·exact h
    ·rw [hout b h] at hi; omega
   exact World.cell?_of_block (w := w) (hw.block b hlt)
  ·rw [hF']; split
   ·rename_i h; rw [hout b (hnew b h).1]; exact Nat.zero_le _
   ·exact Nat.le_refl _
 ·cases k with
  | zero => simp at hkb; exact hnew b (by simpa using hkb)
  | succ k => simp at hkb
 ·cases k <;> cases q <;> simp at h1 h2 ⊢
 ·cases k with
  | zero => simp at h1; have := (hbi j b c h2).1; have := (hnew b (by simpa using h1)).1; omega
  | succ k => simp at h1
 ·have hlen : (strs l).length = l.length := length_strs l
  rw [← hlen]
  have hcell : ∀ i s, l[i]? = some s → ∃ g, a = some ⟨g, 0, none⟩ ∧ w'.cell? ⟨g, i, none⟩ = some (mkS s) := fun i s hs => by
   obtain ⟨g, cur, hg, hh, ht⟩ := hne (by rintro rfl; simp at hs)
   refine ⟨g, hg, ?_⟩
   have h1 : (cur.toList.take l.length)[i]? = some (mkS s) := by rw [ht, List.getElem?_map, hs]; rfl
   rw [List.getElem?_take, if_pos (getElem?_lt hs)] at h1
   simp [World.cell?, hh]
   simpa using h1
  refine .list (some 0) (strs l) a cap 1 ((a.map (·.block)).getD 0) 0 (fun i _ => mkS (l.getD i [])) (by omega) (fun hx => ?_) (fun e he => ?_) (fun hx => ?_) (fun i e j c hi hj => ?_) (fun i e j c hi hj => ?_) (fun k hk' => ?_)
  ·obtain ⟨g, cur, hg, _, _⟩ := hne (by rintro rfl; exact hx rfl)
   rw [hg]; rfl
  ·rw [strs_eq] at he; obtain ⟨s, _, rfl⟩ := List.mem_map.1 he; rfl
  ·obtain ⟨g, cur, hg, _, _⟩ := hne (by rintro rfl; exact hx rfl)
   rw [hF', hg]; simp
  ·obtain ⟨s, hs, rfl, rfl⟩ := strs_get2 hi hj
   obtain ⟨g, hg, hc⟩ := hcell i s hs
   have e1 : l.getD i [] = s := by simp [List.getD, hs]
   simp only [hg, Option.map_some, Option.getD_some, Nat.zero_add, Nat.mul_one, Nat.add_zero, e1]
   exact ⟨hc, rfl⟩
  ·obtain ⟨s, hs, rfl, rfl⟩ := strs_get2 hi hj
   have e1 : l.getD i [] = s := by simp [List.getD, hs]
   simp only [e1]; exact .str s
  ·cases hk'
   refine ⟨T, 1, (strs l).length, rfl, Nat.le_refl _, fun _ => ⟨rfl, ⟨l.map encStr, ?_⟩, rfl, fun b hb => ?_⟩⟩
   ·rw [hlen]; exact hrow
   ·rw [hF', if_pos hb]; simp [hlen]
section
open Go.WideElems (rd rg Fit rg_of)
theorem rd_at {P : Program} {k e : TypeId} {es : Array MapEntry} {clock : Nat} {m : List (Str × Str)} (hk : P.underlying k = some .string) (he : P.underlying e = some .string) (h : MapIs es clock m) {j : Nat} {x : MapEntry} (hx : es.toList[j]? = some x) :
 ∃ p, m[j]? = some p ∧ rd (H := Unit) P k (plainElem P e) x = some (.string p.1, .lit (.string p.2)) := by
 obtain ⟨p, hp, h1, h2⟩ := h.get hx
 obtain ⟨l1, l2⟩ := h.len p (List.mem_of_getElem? hp)
 refine ⟨p, hp, ?_⟩
 have e1 : keyOf P k x.key = some (.string p.1) := by
  rw [h1]; exact WideMaps.keyOf_string_mk hk (s := ⟨p.1.toArray⟩) l1
 have e2 : plainElem (H := Unit) P e x.val = some (.lit (.string p.2), []) := by
  rw [h2]; exact plainElem_string he (s := ⟨p.2.toArray⟩) l2
 simp [rd, e1, e2]
theorem map_owns {P : Program} {k e : TypeId} {w : World} {b : Nat} {es : Array MapEntry} {clock : Nat} {m : List (Str × Str)} (hk : P.underlying k = some .string) (he : P.underlying e = some .string) (h : MapIs es clock m) (hb : w.heap[b]? = some (.map es clock)) :
 ∃ D0 : DataW Unit, w.ownsMap P k (plainElem P e) b m.length D0 ∧ Maps.size D0 = m.length ∧ (strKeys D0).Perm (m.map (·.1)) := by
 have hrg : es.toList.map (rg (H := Unit) P k (plainElem P e)) = m.map fun p => (Lit.string p.1, DataW.lit (.string p.2)) := by
  apply List.ext_getElem?
  intro j
  rw [List.getElem?_map, List.getElem?_map]
  cases hx : es.toList[j]? with
  | none =>
   have : m[j]? = none := by
    have hl := h.length
    rw [List.getElem?_eq_none_iff] at hx ⊢
    simp only [Array.length_toList] at hx; omega
   rw [this]; rfl
  | some x =>
   obtain ⟨p, hp, hr⟩ := rd_at hk he h hx
   rw [hp, Option.map_some, Option.map_some, rg_of hr]
 refine ⟨_, ⟨es, clock, hb, ⟨by rw [h.length]; exact h.size, h.stamped, fun x hx => ?_⟩, by rw [h.length]; exact Nat.le_refl _, rfl⟩, ?_, ?_⟩
 ·obtain ⟨j, hj⟩ := List.getElem?_of_mem hx
  obtain ⟨p, _, hr⟩ := rd_at hk he h hj
  exact ⟨_, hr⟩
 ·rw [hrg]
  show (List.foldr DataW.insert [] _).length = _
  rw [length_sorted, List.length_map]
 ·rw [hrg]
  refine ((WideShapes.sorted_perm _).map _).trans ?_
  rw [List.map_map]
  exact List.Perm.refl _
end
theorem slSortedS.lent (b0 : List ABox) (c j : Nat) (m : List (Str × Str)) (hd : noDead b0 = true) (hc : b0[c]? = some (.cells .var [.bmap j])) (hj : b0[j]? = some (.map m)) (hm : m.length ≤ 1048576) :
 Abs.Lent false Tryz.prog 207 b0 [.clo 223 [] [.bptr c 0]] (fun x y z => x = .list (some 0) (strs (srt (m.map (·.1)))) ∧ y = b0 ∧ z = [(9, 1, m.length)]) := by
 rw [Lent_eq]
 refine ⟨by kernel_rfl, fun w F vs box0 hout hbl hbi hbj hB hargs => ?_⟩
 obtain ⟨v0, rfl⟩ : ∃ v0, vs = #[v0] := by
  have := hargs.1
  match vs, this with
  | ⟨[a]⟩, _ => exact ⟨a, rfl⟩
 obtain ⟨h0, _⟩ := Both.cons.1 hargs
 have hbx : ∀ q x, b0[q]? = some x → ∃ d, box0[q]? = some d := fun q x hx => ⟨_, List.getElem?_eq_getElem (by have := getElem?_lt hx; omega)⟩
 obtain ⟨d1, hd1⟩ := hbx c _ hc
 obtain ⟨d2, hd2⟩ := hbx j _ hj
 have o1 := hB c _ _ hd1 hc
 have o2 := hB j _ _ hd2 hj
 cases d2 with
 | nil => exact o2.elim
 | blk bm cm =>
 cases d1 with
 | nil => exact absurd o1 (by simp [BoxOk])
 | blk bc cc =>
 obtain ⟨arr, t, hh, hsz, hcell, _⟩ := o1
 obtain ⟨r1, _⟩ := hcell 0 _ rfl
 obtain ⟨es, clock, hmh, hM⟩ := o2
 have hv : arr.getD 0 undef = .map (some bm) := by
  generalize arr.getD 0 undef = u at r1
  cases r1 with
  | bmap _ b cap hb => rw [hd2] at hb; cases hb; rfl
 have hlt : bc < w.heap.size := (Array.getElem?_eq_some_iff.1 hh).1
 have hcl : w.cell? ⟨bc, 0, none⟩ = some (.map (some bm)) := by
  have h1 : 0 < arr.size := by simp at hsz; omega
  have h2 : arr[0]? = some (.map (some bm)) := by rw [← hv]; simp [Array.getD, h1]
  simp [World.cell?, hh, h2]
 have hv0 : v0 = .func (.func 223) #[] #[.pointer (some ⟨bc, 0, none⟩)] := by
  cases h0 with
  | clo f xs ys vf vc h1 h2 hr1 hr2 =>
   have e1 : vf = #[] := Array.eq_empty_of_size_eq_zero (by simpa using h1.symm)
   obtain ⟨u, rfl⟩ : ∃ u, vc = #[u] := by
    match vc, h2 with
    | ⟨[u]⟩, _ => exact ⟨u, rfl⟩
   have h3 := hr2 0 _ rfl
   obtain ⟨b, cap, hb, hu⟩ := h3.bptr_inv
   rw [hd1] at hb; cases hb
   have : u = .pointer (some ⟨bc, 0, none⟩) := hu
   rw [e1, this]
 obtain ⟨D0, hown, hDs, hperm⟩ := map_owns (P := Tryz.prog) (k := 9) (e := 9) Tryz.underlying9 Tryz.underlying9 hM hmh
 rw [hv0]
 refine (callsIn_wide.1 (Tryz.sortedKeysAt bc bm m.length D0 (plainElem Tryz.prog 9) w hlt hcl hown (by rw [hDs]; unfold maxLen; omega) (by rw [hDs]; omega))).mono ?_
 rintro e w' ⟨v, ss, rfl, hs, hrow, _, hbw⟩
 have hp := hs.trans hperm
 have hl : (srt (m.map (·.1))).length = m.length := by simp [srt]
 have e1 : ss.mergeSort (fun x y => decide (x ≤ y)) = srt (m.map (·.1)) := mergeSort_of_perm hp
 have e2 : ss.length = (srt (m.map (·.1))).length := by rw [hl, hp.length_eq, List.length_map]
 rw [e1, e2] at hrow
 exact lent_strs hd hout hbl hbi hbj hB hrow hbw ⟨rfl, rfl, by rw [hl]⟩
end Go.Proofs.YtoindmahilbalaaGreat
namespace Go.Proofs.YtoindmahilbalaaGreat
open Abs
mutual
theorem old_ok : ∀ (x : Tr) (m : Nat), noTk (old x) = true ∧ inB m (old x)
 | .v _, _ => ⟨rfl, trivial⟩
 | .s _, _ => ⟨rfl, trivial⟩
 | .l _ _ xs, _ => ⟨oldLL_ok xs, trivial⟩
 | .a fs, m => inBL_all (oldL_ok fs m)
 | .p fs, m => inBL_all (oldL_ok fs m)
theorem oldL_ok : ∀ (xs : List Tr) (m : Nat), ∀ c ∈ oldL xs, noTk c = true ∧ inB m c
 | [], _, c, hc => by simp [oldL] at hc
 | x :: xs, m, c, hc => by
  rw [oldL] at hc
  rcases List.mem_cons.1 hc with rfl | hc
  ·exact old_ok x m
  ·exact oldL_ok xs m c hc
theorem oldLL_ok : ∀ (xs : List (List Tr)), noTkLL (oldLL xs) = true
 | [] => rfl
 | x :: xs => by
  rw [oldLL, noTkLL, (inBL_all (oldL_ok x 0)).1, oldLL_ok xs]; rfl
end
theorem noTk_old (xs : List Tr) : ∀ c ∈ oldL xs, noTk c = true := fun c hc => (oldL_ok xs 0 c hc).1
def PlainC (x : List AV) : Prop := (∀ c ∈ x, noTk c = true) ∧ ∀ m, inB.inBL m x
theorem plainC_old (xs : List Tr) : PlainC (oldL xs) := ⟨noTk_old xs, fun m => (inBL_all (oldL_ok xs m)).2⟩
theorem bindF_lt {b : List VPair} (h : bindF b = true) {j : Nat} (hj : j < b.length) : badB b j = false := by
 cases hb : badB b j with
 | false => rfl
 | true => rw [bindF_no hj hb] at h; cases h
theorem bindF_len {b : List VPair} (h : bindF b = true) : b.length ≤ 6 := by
 rcases Nat.lt_or_ge 6 b.length with h1 | h1
 ·rw [bindF_long (by omega)] at h; cases h
 ·exact h1
theorem bindF_asc {b : List VPair} (h : bindF b = true) : ∀ (j : Nat), j + 1 < b.length → Op.bytesLess (b.getD j default).1 (b.getD (j + 1) default).1 = true := fun j hj => by
 have := bindF_lt h hj
 unfold badB at this
 simp only [Bool.or_eq_false_iff, Bool.and_eq_false_iff, decide_eq_false_iff_not, Bool.not_eq_false', Nat.add_sub_cancel] at this
 rcases this.2 with h1 | h1
 ·omega
 ·exact h1
theorem bindF_sorted {b : List VPair} (h : bindF b = true) : ∀ (d i : Nat), i + d + 1 < b.length → Op.bytesLess (b.getD i default).1 (b.getD (i + d + 1) default).1 = true
 | 0, i, hi => bindF_asc h i hi
 | d + 1, i, hi => blt_sto.trans _ _ _ (bindF_sorted h d i (by omega)) (bindF_asc h (i + d + 1) hi)
theorem bindF_apart {b : List VPair} (h : bindF b = true) {i j : Nat} (hij : i < j) (hj : j < b.length) : (b.getD i default).1 ≠ (b.getD j default).1 := fun e => by
 have := bindF_sorted h (j - i - 1) i (by omega)
 rw [show i + (j - i - 1) + 1 = j by omega, e, bl_irrefl] at this
 cases this
theorem mput_bind {b : List VPair} (h : bindF b = true) {i : Nat} (hi : i < b.length) : mput (b.take i) (b.getD i default).1 (b.getD i default).2 = b.take (i + 1) := by
 have hn : ∀ p ∈ b.take i, p.1 ≠ (b.getD i default).1 := fun p hp => by
  obtain ⟨j, hj⟩ := List.getElem?_of_mem hp
  rw [List.getElem?_take] at hj
  split at hj
  ·rename_i hji
   have e : b.getD j default = p := by simp [List.getD, hj]
   rw [← e]; exact bindF_apart h hji hi
  ·cases hj
 rw [(mget_no hn).2, take_succ' default hi]
theorem pmapOfPairs.lent (x y : List AV) (hx : PlainC x) (hy : PlainC y) (b : List VPair) (h : tPairs.size b ≤ 1048576) (hb : bindF b = true) :
 pmapOfPairs.Lent [.cells .var x, .cells .var y] [.list none (pairs b)] (fun r b1 f1 => r = .bmap 2 ∧ b1 = [.cells .var x, .cells .var y, .map b] ∧ f1 = []) := by
 refine pmapOfPairs.ofL rfl rfl ?_
 rw [tPairs_sz] at h
 skip
 refine ALoop.mk Nat (fun i => ⟨[(0, .list none (pairs b)), (3, .bmap 2), (7, .list none (pairs b)), (8, .val (.int .i64 b.length)), (9, .val (.int .i64 i))], [.cells .var x, .cells .var y, .map (b.take i)], []⟩) (fun i => i ≤ b.length) (fun i => b.length - i) ⟨0, Nat.zero_le _, ?_⟩ (fun i hi => ?_)
 ·repeat' first
   | exact trivial | refine wl_ ?_ ?_ ?_ ?_ | refine And.intro ?_ ?_ | with_reducible rfl | exact ble_ | refine AV.int_congr ?_ | refine AV.list_congr ?_ | (apply rfl)
  simp
 repeat' first
  | (conv => whnf
     first | refine Need.mk rfl ?_ | refine Need.mk ⟨rfl, Nat.le_of_ble_eq_true rfl⟩ ?_ | refine nb_ ?_ | refine Need.mk ?_ ?_ | refine Ix.mapF (fun _ => rfl) ?_ | refine Fork.dec (fun _ => ?_) (fun _ => ?_) | refine Round.mk ?_ | refine FinalC.allA ?_)
 all_goals try simp only [length_rows, length_strs, length_oldLL, List.length_map, Int.toNat_natCast] at *
 ·have := pr_le (l := b) i
  have h2 : (b.take i).length ≤ b.length := by simp; omega
  unfold maxLen; omega
 ·refine ⟨i + 1, by omega, ?_, by omega⟩
  repeat' first
   | exact trivial | refine Weak.mk ?_ ?_ ?_ ?_ (Or.inr ⟨(by repeat' first | exact trivial | exact ble_ | refine And.intro ?_ ?_ | exact hx.2 _ | exact hy.2 _), (by repeat' first | exact trivial | exact ble_ | refine And.intro ?_ ?_ | exact hx.2 _ | exact hy.2 _)⟩) | refine And.intro ?_ ?_ | with_reducible rfl | exact ble_ | refine AV.int_congr ?_ | refine AV.list_congr ?_ | (apply rfl) | refine bx_cons ?_ ?_ | refine bx_map ?_
  ·rw [wrap64 (by omega) (by omega)]; rfl
  ·show mput (b.take i) (b.getD i default).1 (b.getD i default).2 = _
   rw [mput_bind hb (by omega)]
 ·simp [List.take_of_length_le (show b.length ≤ i by omega)]
def turnStep (m : List VPair) (p : Str × Str) : Option (List VPair) :=
 if varF p.1 then (match mget m p.1 with | some v => if v = p.2 then some m else none | none => some (mput m p.1 p.2)) else if p.1 = p.2 then some m else none
def turnS (m : List VPair) : List (Str × Str) → Option (List VPair)
 | [] => some m
 | p :: l => match turnStep m p with | some m' => turnS m' l | none => none
def turnF (m : List VPair) (a x : List Str) : Option (List VPair) := if a.length = x.length then turnS m (a.zip x) else none
theorem step_no {m : List VPair} {t x : Str} (h : varF t = false) (h' : t ≠ x) : turnStep m (t, x) = none := by simp [turnStep, h, h']
theorem step_eq {m : List VPair} {t x : Str} (h : varF t = false) (h' : t = x) : turnStep m (t, x) = some m := by subst h'; simp [turnStep, h]
theorem step_new {m : List VPair} {t x : Str} (h : varF t = true) (h' : mget m t = none) : turnStep m (t, x) = some (mput m t x) := by simp [turnStep, h, h']
theorem step_bad {m : List VPair} {t x v : Str} (h : varF t = true) (h' : mget m t = some v) (h2 : v ≠ x) : turnStep m (t, x) = none := by simp [turnStep, h, h', h2]
theorem step_old {m : List VPair} {t x v : Str} (h : varF t = true) (h' : mget m t = some v) (h2 : v = x) : turnStep m (t, x) = some m := by simp [turnStep, h, h', h2]
theorem zip_drop {a x : List Str} {i : Nat} (h1 : i < a.length) (h2 : i < x.length) : (a.zip x).drop i = (a.getD i [], x.getD i []) :: (a.zip x).drop (i + 1) := by
 have h : i < (a.zip x).length := by simp; omega
 rw [List.drop_eq_getElem_cons h]
 simp [List.getD, h1, h2]
theorem mput_len (m : List VPair) (k v : Str) : (mput m k v).length ≤ m.length + 1 := by
 induction m with
 | nil => simp [mput]
 | cons p m ih =>
  rw [mput]; split
  ·simp
  ·simp; exact ih
theorem pturnInto.lent (x y : List AV) (hx : PlainC x) (hy : PlainC y) (m : List VPair) (a z : List Str) (ha : a.length + listSize Ty.str a ≤ 1048576) (hz : z.length + listSize Ty.str z ≤ 1048576) (hm : m.length ≤ 1048576) :
 pturnInto.Lent [.cells .var x, .cells .var y, .map m] [.list none (strs a), .list none (strs z), .bmap 2]
  (fun r b1 f1 => ∃ m', r = .val (.bool (turnF m a z).isSome) ∧ b1 = [.cells .var x, .cells .var y, .map m'] ∧ f1 = [] ∧ ∀ m0, turnF m a z = some m0 → m' = m0) := by
 refine pturnInto.ofL rfl rfl ?_
 repeat' first
  | (conv => whnf
     first | refine Need.mk rfl ?_ | refine Fork.bne (fun _ => ?_) (fun _ => ?_) | refine FinalC.allA ?_)
 all_goals try simp only [length_strs] at *
 ·rename_i h
  have h : ¬ a.length = z.length := by omega
  exact ⟨m, by simp [turnF, h], by first | rfl | trivial, by first | rfl | trivial, by simp [turnF, h]⟩
 rename_i h
 have h : a.length = z.length := by omega
 refine ALoop.mk (Nat × List VPair) (fun i => ⟨[(0, .list none (strs a)), (1, .list none (strs z)), (2, .bmap 2), (16, .list none (strs a)), (17, .val (.int .i64 a.length)), (18, .val (.int .i64 i.1))], [.cells .var x, .cells .var y, .map i.2], []⟩)
  (fun i => i.1 ≤ a.length ∧ i.2.length ≤ m.length + i.1 ∧ turnS i.2 ((a.zip z).drop i.1) = turnS m (a.zip z)) (fun i => a.length - i.1) ⟨(0, m), ⟨Nat.zero_le _, by simp, rfl⟩, ?_⟩ (fun i hi => ?_)
 ·repeat' first
   | exact trivial | refine wl_ ?_ ?_ ?_ ?_ | refine And.intro ?_ ?_ | with_reducible rfl | exact ble_ | refine AV.int_congr ?_ | refine AV.list_congr ?_ | (apply rfl)
  simp
 obtain ⟨i, m'⟩ := i
 obtain ⟨hi, hml, ht⟩ := hi
 simp only at hi hml ht
 have fails : i < a.length → turnStep m' (a.getD i [], z.getD i []) = none → turnF m a z = none := fun hlt hs => by
  rw [zip_drop hlt (by omega), turnS, hs] at ht
  rw [turnF, if_pos h, ← ht]
 have goes : ∀ m'', i < a.length → turnStep m' (a.getD i [], z.getD i []) = some m'' → turnS m'' ((a.zip z).drop (i + 1)) = turnS m (a.zip z) := fun m'' hlt hs => by
  rw [zip_drop hlt (by omega), turnS, hs] at ht
  exact ht
 have hal := str_le' a i
 have hzl := str_le' z i
 repeat' first
  | contradiction
  | (conv => whnf
     first | refine Need.mk rfl ?_ | refine Need.mk ?_ ?_ | refine Ix.strsF rfl ?_ | refine Fork.dec (fun _ => ?_) (fun _ => ?_) | refine Fork.sne (fun _ => ?_) (fun _ => ?_) | refine Fork.neg (fun _ => ?_) (fun _ => ?_) | refine Round.mk ?_ | refine FinalC.allA ?_ | refine ACall.scalA _ _ (pIsVar.ret _ ?_) rfl ?_)
 all_goals try simp only [length_rows, length_strs, length_oldLL, List.length_map, Int.toNat_natCast] at *
 ·intro _; unfold maxLen; omega
 ·omega
 ·rename_i h1 h2 h3
  have hf := fails (by omega) (step_no h2 h3)
  exact ⟨m', by rw [hf]; rfl, by first | rfl | trivial, by first | rfl | trivial, by simp [hf]⟩
 ·rename_i h1 h2 h3
  refine ⟨(i + 1, m'), ⟨by simp only; omega, by simp only; omega, goes m' (by omega) (step_eq h2 h3)⟩, ?_, by simp only; omega⟩
  repeat' first
   | exact trivial | refine wl_ ?_ ?_ ?_ ?_ | refine And.intro ?_ ?_ | with_reducible rfl | exact ble_ | refine AV.int_congr ?_ | refine AV.list_congr ?_ | (apply rfl)
  rw [wrap64 (by omega) (by omega)]; rfl
 ·unfold maxLen; omega
 ·rename_i h1 h2 h3 h4
  have h3 : mget m' (a.getD i []) = none := by simpa using h3
  have hl := mput_len m' (a.getD i []) (z.getD i [])
  refine ⟨(i + 1, mput m' (a.getD i []) (z.getD i [])), ⟨by simp only; omega, by simp only; omega, goes _ (by omega) (step_new h2 h3)⟩, ?_, by simp only; omega⟩
  repeat' first
   | exact trivial | refine wl_ ?_ ?_ ?_ ?_ | refine And.intro ?_ ?_ | with_reducible rfl | exact ble_ | refine AV.int_congr ?_ | refine AV.list_congr ?_ | (apply rfl)
  rw [wrap64 (by omega) (by omega)]; rfl
 ·rename_i h1 h2 h3 h4
  obtain ⟨v, hv⟩ := Option.isSome_iff_exists.1 h3
  rw [hv] at h4
  have h4 : v ≠ z.getD i [] := h4
  have hf := fails (by omega) (step_bad h2 hv h4)
  exact ⟨m', by rw [hf]; rfl, by first | rfl | trivial, by first | rfl | trivial, by simp [hf]⟩
 ·rename_i h1 h2 h3 h4
  obtain ⟨v, hv⟩ := Option.isSome_iff_exists.1 h3
  rw [hv] at h4
  have h4 : v = z.getD i [] := h4
  refine ⟨(i + 1, m'), ⟨by simp only; omega, by simp only; omega, goes m' (by omega) (step_old h2 hv h4)⟩, ?_, by simp only; omega⟩
  repeat' first
   | exact trivial | refine wl_ ?_ ?_ ?_ ?_ | refine And.intro ?_ ?_ | with_reducible rfl | exact ble_ | refine AV.int_congr ?_ | refine AV.list_congr ?_ | (apply rfl)
  rw [wrap64 (by omega) (by omega)]; rfl
 ·have e : (a.zip z).drop i = [] := List.drop_eq_nil_of_le (by simp; omega)
  rw [e, turnS] at ht
  have hf : turnF m a z = some m' := by rw [turnF, if_pos h, ← ht]
  exact ⟨m', by rw [hf]; rfl, by first | rfl | trivial, by first | rfl | trivial, by rw [hf]; intro m0 e; cases e; rfl⟩
def pairsM (m : List VPair) : List VPair := (srt (m.map (·.1))).map fun k => (k, (mget m k).getD [])
theorem srt_len (l : List Str) : (srt l).length = l.length := by simp [srt]
theorem slKeys.lent (x y : List AV) (hx : PlainC x) (hy : PlainC y) (m : List VPair) :
 slKeys.Lent [.cells .var x, .cells .var y, .map m] [.bmap 2] (fun r b1 f1 => r = .clo 223 [] [.bptr 3 0] ∧ b1 = [.cells .var x, .cells .var y, .map m, .cells .var [.bmap 2]] ∧ f1 = []) := by
 refine slKeys.ofL rfl rfl ?_
 repeat' first
  | (conv => whnf
     first | refine Need.mk rfl ?_ | refine Need.mk ?_ ?_ | refine FinalC.allA ?_)
 ·exact ⟨rfl, rfl⟩
 ·exact ⟨rfl, rfl, rfl⟩
theorem srt_in {l : List Str} {s : Str} (h : s ∈ srt l) : s ∈ l := by simpa [srt] using h
theorem ppairsOfMap.lent (x y : List AV) (hx : PlainC x) (hy : PlainC y) (m : List VPair) (hm : m.length ≤ 1048576) (hl : ∀ p ∈ m, p.1.length ≤ 1048576) :
 Abs.Lent false Tryz.prog 190 [.cells .var x, .cells .var y, .map m] [.bmap 2]
  (fun r b1 f1 => r = .list (some 0) (pairs (pairsM m)) ∧ b1 = [.cells .var x, .cells .var y, .map m, .cells .var [.bmap 2]] ∧ f1 = [(141, 2, m.length), (9, 1, m.length)]) := by
 refine ppairsOfMap.ofL rfl rfl ?_
 have hk := slKeys.lent x y hx hy m
 have hs := slSortedS.lent [.cells .var x, .cells .var y, .map m, .cells .var [.bmap 2]] 3 2 m rfl rfl rfl hm
 have hlen : (srt (m.map (·.1))).length = m.length := by simp [srt]
 have hsl : ∀ i, ((srt (m.map (·.1))).getD i []).length ≤ 1048576 := fun i => by
  rcases Nat.lt_or_ge i (srt (m.map (·.1))).length with h | h
  ·have h1 : (srt (m.map (·.1))).getD i [] ∈ srt (m.map (·.1)) := by simp [List.getD, h]
   obtain ⟨p, hp, e⟩ := List.mem_map.1 (srt_in h1)
   rw [← e]; exact hl p hp
  ·have : (srt (m.map (·.1))).getD i [] = [] := by simp [List.getD, List.getElem?_eq_none h]
   rw [this]; exact Nat.zero_le _
 generalize hks : srt (m.map (·.1)) = ks at hs hlen hsl
 have hpm : pairsM m = ks.map fun k => (k, (mget m k).getD []) := by rw [pairsM, hks]
 repeat' first
  | (conv => whnf
     first | refine Need.mk rfl ?_ | refine ACall.lentE _ _ _ _ _ (Lent.weak (hk)) (by repeat' first | exact Lends.nil | refine Lends.map _ ?_ | refine Lends.lend _ _ (by first | exact hx.1 | exact hy.1 | exact noTk_old _ | (intro c hc; rw [List.mem_singleton.1 hc]; rfl) | (intro c hc; cases hc; done)) ?_) (by repeat' first | exact SeesL.nil | refine SeesL.cons ?_ ?_ | exact Or.inl ⟨rfl, rfl⟩ | exact Or.inr (Sees0.str _) | exact Or.inr (Sees0.val _) | exact Or.inr (Sees0.olds _ _) | exact Or.inr (Sees0.old _) | exact Or.inr (Sees0.oldagg _)) ?_ | refine ACall.lentS _ _ _ _ _ (hs) (by repeat' first | exact Lends.nil | refine Lends.map _ ?_ | refine Lends.lend _ _ (by first | exact hx.1 | exact hy.1 | exact noTk_old _ | (intro c hc; rw [List.mem_singleton.1 hc]; rfl) | (intro c hc; cases hc; done)) ?_) (by repeat' first | exact SeesL.nil | refine SeesL.cons ?_ ?_ | exact Or.inl ⟨rfl, rfl⟩ | exact Or.inr (Sees0.str _) | exact Or.inr (Sees0.val _) | exact Or.inr (Sees0.olds _ _) | exact Or.inr (Sees0.old _) | exact Or.inr (Sees0.oldagg _)) ?_)
 refine ALoop.mk Nat (fun i => ⟨[(0, .bmap 2), (3, .list (some 0) (pairs ((ks.take i).map fun k => (k, (mget m k).getD [])))), (9, .list (some 1) (strs ks)), (10, .val (.int .i64 ks.length)), (11, .val (.int .i64 i))], [.cells .var x, .cells .var y, .map m, .cells .var [.bmap 2]], [(141, 2, ((ks.take i).map fun k => (k, (mget m k).getD [])).length), (9, 1, m.length)]⟩)
  (fun i => i ≤ ks.length) (fun i => ks.length - i) ⟨0, Nat.zero_le _, ?_⟩ (fun i hi => ?_)
 ·repeat' first
   | exact trivial | refine wl_ ?_ ?_ ?_ ?_ | refine And.intro ?_ ?_ | with_reducible rfl | exact ble_ | refine fr2 ?_ ?_ | refine AV.int_congr ?_ | refine AV.list_congr ?_ | (apply rfl)
  simp
 have hkn : i < ks.length → (ks.take (i + 1)).map (fun k => (k, (mget m k).getD [])) = (ks.take i).map (fun k => (k, (mget m k).getD [])) ++ [(ks.getD i [], (mget m (ks.getD i [])).getD [])] := fun h => by
  rw [take_succ' [] h, List.map_append]; rfl
 have hsi := hsl i
 have htl : ((ks.take i).map fun k => (k, (mget m k).getD [])).length ≤ ks.length := by simp; omega
 repeat' first
  | (conv => whnf
     first | refine Need.mk rfl ?_ | refine Need.mk ?_ ?_ | refine Ix.strsF rfl ?_ | refine Fork.dec (fun _ => ?_) (fun _ => ?_) | refine Round.mk ?_ | refine Lit.read rfl ?_ | refine FinalC.allA ?_)
 all_goals try simp only [length_rows, length_strs, length_oldLL, List.length_map, Int.toNat_natCast] at *
 ·intro _; unfold maxLen; omega
 ·intro c hc; rw [List.mem_singleton.1 hc]; rfl
 ·simp only [List.length_singleton]; omega
 ·refine ⟨i + 1, by omega, ?_, by omega⟩
  repeat' first
   | exact trivial | refine wl_ ?_ ?_ ?_ ?_ | refine And.intro ?_ ?_ | with_reducible rfl | exact ble_ | refine fr2 ?_ ?_ | refine AV.int_congr ?_ | refine AV.list_congr ?_ | (apply rfl)
  ·rw [hkn (by omega)]; exact rows_snoc tPair ((ks.take i).map fun k => (k, (mget m k).getD [])) (ks.getD i [], (mget m (ks.getD i [])).getD [])
  ·rw [wrap64 (by omega) (by omega)]; rfl
  ·simp only [List.length_take, List.length_singleton]; omega
 ·have e : ks.take i = ks := List.take_of_length_le (by omega)
  simp [e, hpm, hlen]
end Go.Proofs.YtoindmahilbalaaGreat
