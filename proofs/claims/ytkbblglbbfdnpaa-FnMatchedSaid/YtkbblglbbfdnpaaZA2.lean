/-
  What stands below some laws' proofs, part 2: contracts of functions, by an evaluator.
-/
import Derived.Test.YtkbblglbbfdnpaaZA1
namespace Go.Proofs.Ytkbblglbbfdnpaa
open Abs
def sIsPattern.code : ACode := (.seq (.region false [s 1 (.box (t 0)), s 2 (.mv (.const (.bool false)))]) (.seq (.seq (.region false [s 3 (.mv (.const (.int .i64 0)))]) (.block 0 (.loop (.seq (.seq (.region false [s 4 (.mv (t 3)), s 5 (.fadr 1 (t 1)), s 6 (.load false 1 (t 5)), s 7 (.len false (t 6)), s 8 (.bin .lss (t 4) (t 7))]) (.cond (t 8) .skip (.exit 0))) (.seq (.block 1 (.seq (.region false [s 11 (.fadr 1 (t 1)), s 12 (.load false 1 (t 11)), s 13 (.mv (t 3)), s 14 (.iadr 1 (t 12) (t 13)), s 15 (.load false 1 (t 14)), s 16 (.call 68 [(t 15)]), s 17 (.not (t 16))]) (.cond (t 17) (.seq (.region false [s 2 (.mv (.const (.bool false)))]) .ret) .skip))) (.region false [s 9 (.mv (t 3)), s 10 (.bin .add (t 9) (.const (.int .i64 1))), s 3 (.mv (t 10))])))))) (.seq (.region false [s 18 (.fadr 0 (t 1)), s 19 (.load false 1 (t 18)), s 20 (.call 69 [(t 19)]), s 21 (.mv (t 20)), g 21 true 22 (.fadr 1 (t 1)), g 21 true 23 (.load false 1 (t 22)), g 21 true 24 (.len false (t 23)), g 21 true 25 (.bin .leq (t 24) (.const (.int .i64 3))), s 26 (.and (t 21) (t 25)), s 2 (.mv (t 26))]) .ret)))
def sIsPattern.keep : List Nat := [0, 1, 2, 3]
def sIsPattern.res : List RRes := [.tmp 2]
theorem sIsPattern.of {mo : Bool} {args : List AV} {r : AV} {frs : Fr} (hn : Nat.ble args.length Try.f30.ntmps = true) (h : aCode (Kn mo Try.prog) sIsPattern.keep 0 sIsPattern.code (doneK sIsPattern.res r frs) ⟨argEnv 0 args, [], []⟩) : Abs.Ret mo Try.prog 30 args r frs :=
  Abs.Ret.of_ir Try.func30 rfl (by kernel_rfl) (Nat.le_of_ble_eq_true hn) (by kernel_rfl) (by kernel_rfl) h
abbrev sIsPattern.Ret (args : List AV) (r : AV) (frs : Fr) : Prop := Abs.Ret true Try.prog 30 args r frs
def pIsPattern.code : ACode := (.seq (.region false [s 1 (.box (t 0)), s 2 (.mv (.const (.bool false)))]) (.seq (.region false [s 3 (.fadr 0 (t 1)), s 4 (.load false 1 (t 3)), s 5 (.fadr 1 (t 1)), s 6 (.load false 1 (t 5)), s 7 (.call 74 [(t 4), (t 6), (.func 90)]), s 2 (.mv (t 7))]) .ret))
def pIsPattern.keep : List Nat := [0, 1, 2]
def pIsPattern.res : List RRes := [.tmp 2]
theorem pIsPattern.of {mo : Bool} {args : List AV} {r : AV} {frs : Fr} (hn : Nat.ble args.length Try.f51.ntmps = true) (h : aCode (Kn mo Try.prog) pIsPattern.keep 0 pIsPattern.code (doneK pIsPattern.res r frs) ⟨argEnv 0 args, [], []⟩) : Abs.Ret mo Try.prog 51 args r frs :=
  Abs.Ret.of_ir Try.func51 rfl (by kernel_rfl) (Nat.le_of_ble_eq_true hn) (by kernel_rfl) (by kernel_rfl) h
abbrev pIsPattern.Ret (args : List AV) (r : AV) (frs : Fr) : Prop := Abs.Ret true Try.prog 51 args r frs
def pVarsOf.code : ACode := (.seq (.region false [s 1 (.box (t 0)), s 2 (.mv (.const (.slice none 0 0)))]) (.seq (.region false [s 3 (.fadr 1 (t 1)), s 4 (.load false 1 (t 3)), s 5 (.call 63 [(t 4)]), s 2 (.mv (t 5))]) .ret))
def pVarsOf.keep : List Nat := [0, 1, 2]
def pVarsOf.res : List RRes := [.tmp 2]
theorem pVarsOf.of {mo : Bool} {args : List AV} {r : AV} {frs : Fr} (hn : Nat.ble args.length Try.f25.ntmps = true) (h : aCode (Kn mo Try.prog) pVarsOf.keep 0 pVarsOf.code (doneK pVarsOf.res r frs) ⟨argEnv 0 args, [], []⟩) : Abs.Ret mo Try.prog 25 args r frs :=
  Abs.Ret.of_ir Try.func25 rfl (by kernel_rfl) (Nat.le_of_ble_eq_true hn) (by kernel_rfl) (by kernel_rfl) h
abbrev pVarsOf.Ret (args : List AV) (r : AV) (frs : Fr) : Prop := Abs.Ret true Try.prog 25 args r frs
def sIsBinding.code : ACode := (.seq (.region false [s 2 (.mv (.const (.bool false)))]) (.seq (.seq (.region false [s 3 (.mv (.const (.int .i64 0)))]) (.block 0 (.loop (.seq (.seq (.region false [s 4 (.mv (t 3)), s 5 (.mv (t 0)), s 6 (.len false (t 5)), s 7 (.bin .lss (t 4) (t 6))]) (.cond (t 7) .skip (.exit 0))) (.seq (.block 1 (.seq (.region true [s 10 (.mv (t 0)), s 11 (.mv (t 3)), s 12 (.iadr 2 (t 10) (t 11)), s 13 (.fadr 0 (t 12)), s 14 (.load false 1 (t 13)), s 15 (.call 70 [(t 14)]), s 16 (.not (t 15)), s 17 (.mv (t 16)), g 17 false 18 (.mv (t 0)), g 17 false 19 (.mv (t 3)), g 17 false 20 (.iadr 2 (t 18) (t 19)), g 17 false 21 (.fadr 1 (t 20)), g 17 false 22 (.load false 1 (t 21)), g 17 false 23 (.call 57 [(t 22)]), g 17 false 24 (.not (t 23)), s 25 (.or (t 17) (t 24)), s 26 (.mv (t 25)), g 26 false 27 (.mv (t 3)), g 26 false 28 (.bin .gtr (t 27) (.const (.int .i64 0))), g 26 false 29 (.mv (t 28)), g 29 true 30 (.mv (t 0)), g 29 true 31 (.mv (t 3)), g 29 true 32 (.bin .sub (t 31) (.const (.int .i64 1))), g 29 true 33 (.iadr 2 (t 30) (t 32)), g 29 true 34 (.fadr 0 (t 33)), g 29 true 35 (.load false 1 (t 34)), g 29 true 36 (.mv (t 0)), g 29 true 37 (.mv (t 3)), g 29 true 38 (.iadr 2 (t 36) (t 37)), g 29 true 39 (.fadr 0 (t 38)), g 29 true 40 (.load false 1 (t 39)), g 29 true 41 (.bin .geq (t 35) (t 40)), g 26 false 42 (.and (t 29) (t 41)), s 43 (.or (t 26) (t 42))]) (.cond (t 43) (.seq (.region false [s 2 (.mv (.const (.bool false)))]) .ret) .skip))) (.region false [s 8 (.mv (t 3)), s 9 (.bin .add (t 8) (.const (.int .i64 1))), s 3 (.mv (t 9))])))))) (.seq (.region false [s 44 (.mv (t 0)), s 45 (.len false (t 44)), s 46 (.bin .leq (t 45) (.const (.int .i64 6))), s 2 (.mv (t 46))]) .ret)))
def sIsBinding.keep : List Nat := [0, 2, 3]
def sIsBinding.res : List RRes := [.tmp 2]
theorem sIsBinding.of {mo : Bool} {args : List AV} {r : AV} {frs : Fr} (hn : Nat.ble args.length Try.f31.ntmps = true) (h : aCode (Kn mo Try.prog) sIsBinding.keep 0 sIsBinding.code (doneK sIsBinding.res r frs) ⟨argEnv 0 args, [], []⟩) : Abs.Ret mo Try.prog 31 args r frs :=
  Abs.Ret.of_ir Try.func31 rfl (by kernel_rfl) (Nat.le_of_ble_eq_true hn) (by kernel_rfl) (by kernel_rfl) h
abbrev sIsBinding.Ret (args : List AV) (r : AV) (frs : Fr) : Prop := Abs.Ret true Try.prog 31 args r frs
def pIsBinding.code : ACode := (.seq (.region false [s 2 (.mv (.const (.bool false)))]) (.seq (.seq (.region false [s 5 (.mv (t 0)), s 6 (.len false (t 5)), s 7 (.bin .gtr (t 6) (.const (.int .i64 6)))]) (.cond (t 7) (.seq (.region false [s 2 (.mv (.const (.bool false)))]) .ret) .skip)) (.seq (.seq (.region false [s 8 (.mv (t 0)), s 9 (.len false (t 8)), s 10 (.mv (.const (.int .i64 0)))]) (.block 0 (.loop (.seq (.region false [s 11 (.bin .lss (t 10) (t 9))]) (.seq (.cond (t 11) .skip (.exit 0)) (.seq (.block 1 (.seq (.region false [s 12 (.mv (t 10)), s 13 (.iadr 2 (t 8) (t 10)), s 14 (.load true 2 (t 13)), s 4 (.alloc [(.string (.mk (.mk []))), (.string (.mk (.mk [])))]), s 3 (.mv (t 12)), ⟨none, none, (.store 2 (t 4) (t 14))⟩]) (.seq (.region true [s 15 (.fadr 0 (t 4)), s 16 (.load false 1 (t 15)), s 17 (.call 61 [(t 16)]), s 18 (.not (t 17)), s 19 (.mv (t 18)), g 19 false 20 (.fadr 1 (t 4)), g 19 false 21 (.load false 1 (t 20)), g 19 false 22 (.call 62 [(t 21)]), g 19 false 23 (.not (t 22)), s 24 (.or (t 19) (t 23)), s 25 (.mv (t 24)), g 25 false 26 (.mv (t 3)), g 25 false 27 (.bin .gtr (t 26) (.const (.int .i64 0))), g 25 false 28 (.mv (t 27)), g 28 true 29 (.mv (t 0)), g 28 true 30 (.mv (t 3)), g 28 true 31 (.bin .sub (t 30) (.const (.int .i64 1))), g 28 true 32 (.iadr 2 (t 29) (t 31)), g 28 true 33 (.fadr 0 (t 32)), g 28 true 34 (.load false 1 (t 33)), g 28 true 35 (.fadr 0 (t 4)), g 28 true 36 (.load false 1 (t 35)), g 28 true 37 (.bin .geq (t 34) (t 36)), g 25 false 38 (.and (t 28) (t 37)), s 39 (.or (t 25) (t 38))]) (.cond (t 39) (.seq (.region false [s 2 (.mv (.const (.bool false)))]) .ret) .skip)))) (.region false [s 40 (.bin .add (t 10) (.const (.int .i64 1))), s 10 (.mv (t 40))]))))))) (.seq (.region false [s 2 (.mv (.const (.bool true)))]) .ret))))
def pIsBinding.keep : List Nat := [0, 2, 3, 4, 8, 9, 10, 11]
def pIsBinding.res : List RRes := [.tmp 2]
theorem pIsBinding.of {mo : Bool} {args : List AV} {r : AV} {frs : Fr} (hn : Nat.ble args.length Try.f24.ntmps = true) (h : aCode (Kn mo Try.prog) pIsBinding.keep 0 pIsBinding.code (doneK pIsBinding.res r frs) ⟨argEnv 0 args, [], []⟩) : Abs.Ret mo Try.prog 24 args r frs :=
  Abs.Ret.of_ir Try.func24 rfl (by kernel_rfl) (Nat.le_of_ble_eq_true hn) (by kernel_rfl) (by kernel_rfl) h
abbrev pIsBinding.Ret (args : List AV) (r : AV) (frs : Fr) : Prop := Abs.Ret true Try.prog 24 args r frs
def sValueOf.code : ACode := (.seq (.region false [s 4 (.mv (.const (.string (.mk #[])))), s 5 (.mv (.const (.bool false)))]) (.seq (.seq (.region false [s 7 (.mv (t 1)), s 8 (.call 57 [(t 7)])]) (.cond (t 8) (.seq (.region false [s 9 (.mv (t 1)), s 4 (.mv (t 9)), s 5 (.mv (.const (.bool true)))]) .ret) .skip)) (.seq (.seq (.region false [s 6 (.mv (.const (.int .i64 0)))]) (.block 0 (.loop (.seq (.seq (.region false [s 10 (.mv (t 6)), s 11 (.mv (t 0)), s 12 (.len false (t 11)), s 13 (.bin .lss (t 10) (t 12))]) (.cond (t 13) .skip (.exit 0))) (.seq (.block 1 (.seq (.region false [s 16 (.mv (t 0)), s 17 (.mv (t 6)), s 18 (.iadr 2 (t 16) (t 17)), s 19 (.fadr 0 (t 18)), s 20 (.load false 1 (t 19)), s 21 (.mv (t 1)), s 22 (.bin .eql (t 20) (t 21)), s 23 (.mv (t 22)), g 23 true 24 (.mv (t 1)), g 23 true 25 (.call 70 [(t 24)]), s 26 (.and (t 23) (t 25))]) (.cond (t 26) (.seq (.region false [s 27 (.mv (t 0)), s 28 (.mv (t 6)), s 29 (.iadr 2 (t 27) (t 28)), s 30 (.fadr 1 (t 29)), s 31 (.load false 1 (t 30)), s 4 (.mv (t 31)), s 5 (.mv (.const (.bool true)))]) .ret) .skip))) (.region false [s 14 (.mv (t 6)), s 15 (.bin .add (t 14) (.const (.int .i64 1))), s 6 (.mv (t 15))])))))) (.seq (.region false [s 4 (.mv (.const (.string (.mk #[])))), s 5 (.mv (.const (.bool false)))]) .ret))))
def sValueOf.keep : List Nat := [0, 1, 4, 5, 6]
def sValueOf.res : List RRes := [.tmp 4, .tmp 5]
theorem sValueOf.ofS {mo : Bool} {args : List AV} {r : AV} (hr : isScalR r = true) (hn : Nat.ble args.length Try.f49.ntmps = true) (h : aCode (Kn mo Try.prog) sValueOf.keep 0 sValueOf.code (doneS sValueOf.res r) ⟨argEnv 0 args, [], []⟩) : Abs.Ret mo Try.prog 49 args r [] :=
  Abs.Ret.of_irS hr Try.func49 rfl (by kernel_rfl) (Nat.le_of_ble_eq_true hn) (by kernel_rfl) (by kernel_rfl) h
abbrev sValueOf.Ret (args : List AV) (r : AV) (frs : Fr) : Prop := Abs.Ret true Try.prog 49 args r frs
def pValueOf.code : ACode := (.seq (.region false [s 4 (.mv (.const (.string (.mk #[])))), s 5 (.mv (.const (.bool false)))]) (.seq (.seq (.region false [s 8 (.mv (t 1)), s 9 (.call 62 [(t 8)])]) (.cond (t 9) (.seq (.region false [s 10 (.mv (t 1)), s 4 (.mv (t 10)), s 5 (.mv (.const (.bool true)))]) .ret) .skip)) (.seq (.seq (.region false [s 11 (.mv (t 1)), s 12 (.call 61 [(t 11)]), s 13 (.not (t 12))]) (.cond (t 13) (.seq (.region false [s 4 (.mv (.const (.string (.mk #[])))), s 5 (.mv (.const (.bool false)))]) .ret) .skip)) (.seq (.seq (.region false [s 14 (.mv (t 0)), s 15 (.len false (t 14)), s 16 (.mv (.const (.int .i64 0)))]) (.block 0 (.loop (.seq (.region false [s 17 (.bin .lss (t 16) (t 15))]) (.seq (.cond (t 17) .skip (.exit 0)) (.seq (.block 1 (.seq (.region false [s 18 (.iadr 2 (t 14) (t 16)), s 19 (.load true 2 (t 18)), s 7 (.alloc [(.string (.mk (.mk []))), (.string (.mk (.mk [])))]), ⟨none, none, (.store 2 (t 7) (t 19))⟩]) (.seq (.region false [s 20 (.fadr 0 (t 7)), s 21 (.load false 1 (t 20)), s 22 (.mv (t 1)), s 23 (.bin .eql (t 21) (t 22))]) (.cond (t 23) (.seq (.region false [s 24 (.fadr 1 (t 7)), s 25 (.load false 1 (t 24)), s 4 (.mv (t 25)), s 5 (.mv (.const (.bool true)))]) .ret) .skip)))) (.region false [s 26 (.bin .add (t 16) (.const (.int .i64 1))), s 16 (.mv (t 26))]))))))) (.seq (.region false [s 4 (.mv (.const (.string (.mk #[])))), s 5 (.mv (.const (.bool false)))]) .ret)))))
def pValueOf.keep : List Nat := [0, 1, 4, 5, 7, 14, 15, 16, 17]
def pValueOf.res : List RRes := [.tmp 4, .tmp 5]
theorem pValueOf.ofS {mo : Bool} {args : List AV} {r : AV} (hr : isScalR r = true) (hn : Nat.ble args.length Try.f26.ntmps = true) (h : aCode (Kn mo Try.prog) pValueOf.keep 0 pValueOf.code (doneS pValueOf.res r) ⟨argEnv 0 args, [], []⟩) : Abs.Ret mo Try.prog 26 args r [] :=
  Abs.Ret.of_irS hr Try.func26 rfl (by kernel_rfl) (Nat.le_of_ble_eq_true hn) (by kernel_rfl) (by kernel_rfl) h
abbrev pValueOf.Ret (args : List AV) (r : AV) (frs : Fr) : Prop := Abs.Ret true Try.prog 26 args r frs
def sExtend.code : ACode := (.seq (.region false [s 6 (.mv (.const (.slice none 0 0))), s 7 (.mv (.const (.bool false)))]) (.seq (.seq (.region false [s 10 (.mv (t 0)), s 11 (.call 31 [(t 10)]), s 12 (.not (t 11)), s 13 (.mv (t 12)), g 13 false 14 (.mv (t 1)), g 13 false 15 (.call 70 [(t 14)]), g 13 false 16 (.not (t 15)), s 17 (.or (t 13) (t 16)), s 18 (.mv (t 17)), g 18 false 19 (.mv (t 2)), g 18 false 20 (.call 57 [(t 19)]), g 18 false 21 (.not (t 20)), s 22 (.or (t 18) (t 21))]) (.cond (t 22) (.seq (.region false [s 23 (.bslice 50 2 true []), s 6 (.mv (t 23)), s 7 (.mv (.const (.bool false)))]) .ret) .skip)) (.seq (.region false [s 25 (.mv (t 0)), s 26 (.mv (t 1)), s 27 (.call 49 [(t 25), (t 26)]), s 24 (.mv (t 27)), s 28 (.extract (t 24) 0), s 29 (.extract (t 24) 1), s 8 (.mv (t 28)), s 9 (.mv (t 29))]) (.seq (.seq (.region false [s 30 (.mv (t 9)), s 31 (.mv (t 30)), g 31 true 32 (.mv (t 8)), g 31 true 33 (.mv (t 2)), g 31 true 34 (.bin .eql (t 32) (t 33)), s 35 (.and (t 31) (t 34))]) (.cond (t 35) (.seq (.region false [s 36 (.mv (t 0)), s 37 (.call 56 [(t 36)]), s 6 (.mv (t 37)), s 7 (.mv (.const (.bool true)))]) .ret) .skip)) (.seq (.seq (.region false [s 38 (.mv (t 9)), s 39 (.mv (t 38)), g 39 false 40 (.mv (t 0)), g 39 false 41 (.len false (t 40)), g 39 false 42 (.bin .eql (t 41) (.const (.int .i64 6))), s 43 (.or (t 39) (t 42))]) (.cond (t 43) (.seq (.region false [s 44 (.bslice 50 2 true []), s 6 (.mv (t 44)), s 7 (.mv (.const (.bool false)))]) .ret) .skip)) (.seq (.region false [s 45 (.mv (t 0)), s 46 (.mv (t 1)), s 47 (.mv (t 2)), s 48 (.call 94 [(t 45), (t 46), (t 47)]), s 6 (.mv (t 48)), s 7 (.mv (.const (.bool true)))]) .ret))))))
def sExtend.keep : List Nat := [0, 1, 2, 6, 7, 8, 9]
def sExtend.res : List RRes := [.tmp 6, .tmp 7]
theorem sExtend.of {mo : Bool} {args : List AV} {r : AV} {frs : Fr} (hn : Nat.ble args.length Try.f58.ntmps = true) (h : aCode (Kn mo Try.prog) sExtend.keep 0 sExtend.code (doneK sExtend.res r frs) ⟨argEnv 0 args, [], []⟩) : Abs.Ret mo Try.prog 58 args r frs :=
  Abs.Ret.of_ir Try.func58 rfl (by kernel_rfl) (Nat.le_of_ble_eq_true hn) (by kernel_rfl) (by kernel_rfl) h
abbrev sExtend.Ret (args : List AV) (r : AV) (frs : Fr) : Prop := Abs.Ret true Try.prog 58 args r frs
def pInstance.code : ACode := (.seq (.region false [s 2 (.box (t 0)), s 4 (.alloc [(.string (.mk (.mk []))), (.slice none 0 0)]), s 5 (.mv (.const (.bool false)))]) (.seq (.seq (.region false [s 11 (.load true 2 (t 2)), s 12 (.call 51 [(t 11)]), s 13 (.not (t 12)), s 14 (.mv (t 13)), g 14 false 15 (.mv (t 1)), g 14 false 16 (.call 24 [(t 15)]), g 14 false 17 (.not (t 16)), s 18 (.or (t 14) (t 17))]) (.cond (t 18) (.seq (.region false [s 19 (.build [(.string (.mk (.mk []))), (.slice none 0 0)] [] []), ⟨none, none, (.store 2 (t 4) (t 19))⟩, s 5 (.mv (.const (.bool false)))]) .ret) .skip)) (.seq (.heldT false [20, 21, 22, 23, 24, 25, 26, 6] (.alt (s 20 (.fadr 0 (t 2))) (.alt (s 21 (.load false 1 (t 20))) (.alt (s 22 (.fadr 1 (t 2))) (.alt (s 23 (.load false 1 (t 22))) (.alt (s 24 (.len false (t 23))) (.alt (s 25 (.make 9 [(.string (.mk (.mk [])))] 1 16 (t 24))) (.alt (s 26 (.build [(.string (.mk (.mk []))), (.slice none 0 0)] [(0, 1), (1, 1)] [(t 21), (t 25)])) (.alt (s 6 (.alloc [(.string (.mk (.mk []))), (.slice none 0 0)])) .fin .none) .none) (.alt (s 6 (.alloc [(.string (.mk (.mk []))), (.slice none 0 0)])) (.alt (s 25 (.make 9 [(.string (.mk (.mk [])))] 1 16 (t 24))) (.alt (s 26 (.build [(.string (.mk (.mk []))), (.slice none 0 0)] [(0, 1), (1, 1)] [(t 21), (t 25)])) .fin .none) .none) .none)) .none) .none) .none) .none) .none) [⟨none, none, (.store 2 (t 6) (t 26))⟩]) (.seq (.seq (.region false [s 27 (.fadr 1 (t 2)), s 28 (.load false 1 (t 27)), s 29 (.len false (t 28)), s 30 (.mv (.const (.int .i64 0)))]) (.block 0 (.loop (.seq (.region false [s 31 (.bin .lss (t 30) (t 29))]) (.seq (.cond (t 31) .skip (.exit 0)) (.seq (.block 1 (.seq (.region false [s 32 (.mv (t 30)), s 33 (.iadr 1 (t 28) (t 30)), s 34 (.load false 1 (t 33)), s 7 (.mv (t 32)), s 8 (.mv (t 34))]) (.seq (.region false [s 36 (.mv (t 1)), s 37 (.mv (t 8)), s 38 (.call 26 [(t 36), (t 37)]), s 35 (.mv (t 38)), s 39 (.extract (t 35) 0), s 40 (.extract (t 35) 1), s 9 (.mv (t 39)), s 10 (.mv (t 40))]) (.seq (.seq (.region false [s 41 (.mv (t 10)), s 42 (.not (t 41))]) (.cond (t 42) (.seq (.region false [s 43 (.build [(.string (.mk (.mk []))), (.slice none 0 0)] [] []), ⟨none, none, (.store 2 (t 4) (t 43))⟩, s 5 (.mv (.const (.bool false)))]) .ret) .skip)) (.region false [s 44 (.fadr 1 (t 6)), s 45 (.load false 1 (t 44)), s 46 (.mv (t 7)), s 47 (.mv (t 9)), s 48 (.iadr 1 (t 45) (t 46)), ⟨none, none, (.store 1 (t 48) (t 47))⟩]))))) (.region false [s 49 (.bin .add (t 30) (.const (.int .i64 1))), s 30 (.mv (t 49))]))))))) (.seq (.region false [s 50 (.load true 2 (t 6)), ⟨none, none, (.store 2 (t 4) (t 50))⟩, s 5 (.mv (.const (.bool true)))]) .ret)))))
def pInstance.keep : List Nat := [0, 1, 2, 4, 5, 6, 7, 8, 9, 10, 28, 29, 30, 31]
def pInstance.res : List RRes := [.cell 4 true 2, .tmp 5]
abbrev pInstance.Own (args : List AV) (x : Tr) : Prop := Abs.Own true Try.prog 21 args x
def pRestrict.code : ACode := (.seq (.region false [s 4 (.mv (.const (.slice none 0 0)))]) (.seq (.region false [s 8 (.bslice 50 2 true []), s 5 (.mv (t 8))]) (.seq (.seq (.region false [s 9 (.mv (t 0)), s 10 (.len false (t 9)), s 11 (.mv (.const (.int .i64 0)))]) (.block 0 (.loop (.seq (.region false [s 12 (.bin .lss (t 11) (t 10))]) (.seq (.cond (t 12) .skip (.exit 0)) (.seq (.block 1 (.seq (.region false [s 13 (.iadr 2 (t 9) (t 11)), s 14 (.load true 2 (t 13)), s 7 (.alloc [(.string (.mk (.mk []))), (.string (.mk (.mk [])))]), ⟨none, none, (.store 2 (t 7) (t 14))⟩]) (.seq (.region false [s 15 (.mv (t 1)), s 16 (.fadr 0 (t 7)), s 17 (.load false 1 (t 16)), s 18 (.call 64 [(t 15), (t 17)])]) (.cond (t 18) (.region false [s 19 (.mv (t 5)), s 20 (.load true 2 (t 7)), s 21 (.bslice 50 2 false [(t 20)]), s 22 (.append 50 2 32 (t 19) (t 21)), s 5 (.mv (t 22))]) .skip)))) (.region false [s 23 (.bin .add (t 11) (.const (.int .i64 1))), s 11 (.mv (t 23))]))))))) (.seq (.region false [s 24 (.mv (t 5)), s 4 (.mv (t 24))]) .ret))))
def pRestrict.keep : List Nat := [0, 1, 4, 5, 7, 9, 10, 11, 12]
def pRestrict.res : List RRes := [.tmp 4]
theorem pRestrict.of {mo : Bool} {args : List AV} {r : AV} {frs : Fr} (hn : Nat.ble args.length Try.f27.ntmps = true) (h : aCode (Kn mo Try.prog) pRestrict.keep 0 pRestrict.code (doneK pRestrict.res r frs) ⟨argEnv 0 args, [], []⟩) : Abs.Ret mo Try.prog 27 args r frs :=
  Abs.Ret.of_ir Try.func27 rfl (by kernel_rfl) (Nat.le_of_ble_eq_true hn) (by kernel_rfl) (by kernel_rfl) h
abbrev pRestrict.Own (args : List AV) (x : Tr) : Prop := Abs.Own true Try.prog 27 args x
abbrev pRestrict.Ret (args : List AV) (r : AV) (frs : Fr) : Prop := Abs.Ret true Try.prog 27 args r frs
def sMatchFact.code : ACode := (.seq (.region false [s 3 (.box (t 0)), s 4 (.box (t 1)), s 6 (.mv (.const (.slice none 0 0))), s 7 (.mv (.const (.bool false)))]) (.seq (.seq (.region false [s 12 (.load true 2 (t 3)), s 13 (.call 30 [(t 12)]), s 14 (.not (t 13)), s 15 (.mv (t 14)), g 15 false 16 (.load true 2 (t 4)), g 15 false 17 (.call 55 [(t 16)]), g 15 false 18 (.not (t 17)), s 19 (.or (t 15) (t 18)), s 20 (.mv (t 19)), g 20 false 21 (.mv (t 2)), g 20 false 22 (.call 31 [(t 21)]), g 20 false 23 (.not (t 22)), s 24 (.or (t 20) (t 23)), s 25 (.mv (t 24)), g 25 false 26 (.fadr 0 (t 3)), g 25 false 27 (.load false 1 (t 26)), g 25 false 28 (.fadr 0 (t 4)), g 25 false 29 (.load false 1 (t 28)), g 25 false 30 (.bin .neq (t 27) (t 29)), s 31 (.or (t 25) (t 30)), s 32 (.mv (t 31)), g 32 false 33 (.fadr 1 (t 3)), g 32 false 34 (.load false 1 (t 33)), g 32 false 35 (.len false (t 34)), g 32 false 36 (.fadr 1 (t 4)), g 32 false 37 (.load false 1 (t 36)), g 32 false 38 (.len false (t 37)), g 32 false 39 (.bin .neq (t 35) (t 38)), s 40 (.or (t 32) (t 39))]) (.cond (t 40) (.seq (.region false [s 41 (.bslice 50 2 true []), s 6 (.mv (t 41)), s 7 (.mv (.const (.bool false)))]) .ret) .skip)) (.seq (.region false [s 42 (.mv (t 2)), s 43 (.call 56 [(t 42)]), s 8 (.mv (t 43))]) (.seq (.seq (.region false [s 9 (.mv (.const (.int .i64 0)))]) (.block 0 (.loop (.seq (.seq (.region false [s 44 (.mv (t 9)), s 45 (.fadr 1 (t 3)), s 46 (.load false 1 (t 45)), s 47 (.len false (t 46)), s 48 (.bin .lss (t 44) (t 47))]) (.cond (t 48) .skip (.exit 0))) (.seq (.block 1 (.seq (.seq (.region false [s 51 (.fadr 1 (t 3)), s 52 (.load false 1 (t 51)), s 53 (.mv (t 9)), s 54 (.iadr 1 (t 52) (t 53)), s 55 (.load false 1 (t 54)), s 56 (.call 57 [(t 55)])]) (.cond (t 56) (.seq (.seq (.region true [s 57 (.fadr 1 (t 3)), s 58 (.load false 1 (t 57)), s 59 (.mv (t 9)), s 60 (.iadr 1 (t 58) (t 59)), s 61 (.load false 1 (t 60)), s 62 (.fadr 1 (t 4)), s 63 (.load false 1 (t 62)), s 64 (.mv (t 9)), s 65 (.iadr 1 (t 63) (t 64)), s 66 (.load false 1 (t 65)), s 67 (.bin .neq (t 61) (t 66))]) (.cond (t 67) (.seq (.region false [s 68 (.bslice 50 2 true []), s 6 (.mv (t 68)), s 7 (.mv (.const (.bool false)))]) .ret) .skip)) (.exit 1)) .skip)) (.seq (.held [s 70 (.mv (t 8)), s 71 (.fadr 1 (t 3)), s 72 (.load false 1 (t 71)), s 73 (.mv (t 9)), s 74 (.iadr 1 (t 72) (t 73)), s 75 (.load false 1 (t 74)), s 76 (.fadr 1 (t 4)), s 77 (.load false 1 (t 76)), s 78 (.mv (t 9)), s 79 (.iadr 1 (t 77) (t 78)), s 80 (.load false 1 (t 79)), s 81 (.call 58 [(t 70), (t 75), (t 80)]), s 69 (.mv (t 81)), s 82 (.extract (t 69) 0), s 83 (.extract (t 69) 1), s 10 (.mv (t 82))] [s 11 (.mv (t 83))]) (.seq (.seq (.region false [s 84 (.mv (t 11)), s 85 (.not (t 84))]) (.cond (t 85) (.seq (.region false [s 86 (.bslice 50 2 true []), s 6 (.mv (t 86)), s 7 (.mv (.const (.bool false)))]) .ret) .skip)) (.region false [s 87 (.mv (t 10)), s 8 (.mv (t 87))]))))) (.region false [s 49 (.mv (t 9)), s 50 (.bin .add (t 49) (.const (.int .i64 1))), s 9 (.mv (t 50))])))))) (.seq (.region false [s 88 (.mv (t 8)), s 6 (.mv (t 88)), s 7 (.mv (.const (.bool true)))]) .ret)))))
def sMatchFact.keep : List Nat := [0, 1, 2, 3, 4, 6, 7, 8, 9, 10, 11]
def sMatchFact.res : List RRes := [.tmp 6, .tmp 7]
abbrev sMatchFact.Own (args : List AV) (x : Tr) : Prop := Abs.Own true Try.prog 20 args x
def pMatchFact.code : ACode := (.seq (.region false [s 3 (.box (t 0)), s 4 (.box (t 1)), s 6 (.mv (.const (.slice none 0 0))), s 7 (.mv (.const (.bool false)))]) (.seq (.seq (.region false [s 9 (.fadr 0 (t 3)), s 10 (.load false 1 (t 9)), s 11 (.fadr 0 (t 4)), s 12 (.load false 1 (t 11)), s 13 (.bin .neq (t 10) (t 12)), s 14 (.mv (t 13)), g 14 false 15 (.load true 2 (t 3)), g 14 false 16 (.call 51 [(t 15)]), g 14 false 17 (.not (t 16)), s 18 (.or (t 14) (t 17)), s 19 (.mv (t 18)), g 19 false 20 (.load true 2 (t 4)), g 19 false 21 (.call 36 [(t 20)]), g 19 false 22 (.not (t 21)), s 23 (.or (t 19) (t 22)), s 24 (.mv (t 23)), g 24 false 25 (.mv (t 2)), g 24 false 26 (.call 24 [(t 25)]), g 24 false 27 (.not (t 26)), s 28 (.or (t 24) (t 27))]) (.cond (t 28) (.seq (.region false [s 29 (.bslice 50 2 true []), s 6 (.mv (t 29)), s 7 (.mv (.const (.bool false)))]) .ret) .skip)) (.seq (.region false [s 30 (.mv (t 2)), s 31 (.call 52 [(t 30)]), s 8 (.mv (t 31))]) (.seq (.seq (.region false [s 32 (.fadr 1 (t 3)), s 33 (.load false 1 (t 32)), s 34 (.fadr 1 (t 4)), s 35 (.load false 1 (t 34)), s 36 (.mv (t 8)), s 37 (.call 53 [(t 33), (t 35), (t 36)]), s 38 (.not (t 37)), s 39 (.mv (t 38)), g 39 false 40 (.mv (t 8)), g 39 false 41 (.mlen (t 40)), g 39 false 42 (.bin .gtr (t 41) (.const (.int .i64 6))), s 43 (.or (t 39) (t 42))]) (.cond (t 43) (.seq (.region false [s 44 (.bslice 50 2 true []), s 6 (.mv (t 44)), s 7 (.mv (.const (.bool false)))]) .ret) .skip)) (.seq (.region false [s 45 (.mv (t 8)), s 46 (.call 54 [(t 45)]), s 6 (.mv (t 46)), s 7 (.mv (.const (.bool true)))]) .ret)))))
def pMatchFact.keep : List Nat := [0, 1, 2, 3, 4, 6, 7, 8]
def pMatchFact.res : List RRes := [.tmp 6, .tmp 7]
def sCopyB.code : ACode := (.seq (.region false [s 2 (.mv (.const (.slice none 0 0)))]) (.seq (.region false [s 3 (.bslice 50 2 true []), s 4 (.mv (t 0)), s 5 (.append 50 2 32 (t 3) (t 4)), s 2 (.mv (t 5))]) .ret))
def sCopyB.keep : List Nat := [0, 2]
def sCopyB.res : List RRes := [.tmp 2]
theorem sCopyB.of {mo : Bool} {args : List AV} {r : AV} {frs : Fr} (hn : Nat.ble args.length Try.f56.ntmps = true) (h : aCode (Kn mo Try.prog) sCopyB.keep 0 sCopyB.code (doneK sCopyB.res r frs) ⟨argEnv 0 args, [], []⟩) : Abs.Ret mo Try.prog 56 args r frs :=
  Abs.Ret.of_ir Try.func56 rfl (by kernel_rfl) (Nat.le_of_ble_eq_true hn) (by kernel_rfl) (by kernel_rfl) h
abbrev sCopyB.Ret (args : List AV) (r : AV) (frs : Fr) : Prop := Abs.Ret true Try.prog 56 args r frs
def sSet.code : ACode := (.seq (.region false [s 6 (.mv (.const (.slice none 0 0)))]) (.seq (.region false [s 10 (.bslice 50 2 true []), s 7 (.mv (t 10))]) (.seq (.region false [s 8 (.mv (.const (.bool false)))]) (.seq (.seq (.region false [s 9 (.mv (.const (.int .i64 0)))]) (.block 0 (.loop (.seq (.seq (.region false [s 11 (.mv (t 9)), s 12 (.mv (t 0)), s 13 (.len false (t 12)), s 14 (.bin .lss (t 11) (t 13))]) (.cond (t 14) .skip (.exit 0))) (.seq (.block 1 (.seq (.seq (.region false [s 17 (.mv (t 8)), s 18 (.not (t 17)), s 19 (.mv (t 18)), g 19 true 20 (.mv (t 0)), g 19 true 21 (.mv (t 9)), g 19 true 22 (.iadr 2 (t 20) (t 21)), g 19 true 23 (.fadr 0 (t 22)), g 19 true 24 (.load false 1 (t 23)), g 19 true 25 (.mv (t 1)), g 19 true 26 (.bin .gtr (t 24) (t 25)), s 27 (.and (t 19) (t 26))]) (.cond (t 27) (.seq (.region false [s 28 (.mv (t 7)), s 29 (.mv (t 1)), s 30 (.mv (t 2)), s 31 (.build [(.string (.mk (.mk []))), (.string (.mk (.mk [])))] [(0, 1), (1, 1)] [(t 29), (t 30)]), s 32 (.bslice 50 2 false [(t 31)]), s 33 (.append 50 2 32 (t 28) (t 32)), s 7 (.mv (t 33))]) (.region false [s 8 (.mv (.const (.bool true)))])) .skip)) (.region false [s 34 (.mv (t 7)), s 35 (.mv (t 0)), s 36 (.mv (t 9)), s 37 (.iadr 2 (t 35) (t 36)), s 38 (.load true 2 (t 37)), s 39 (.bslice 50 2 false [(t 38)]), s 40 (.append 50 2 32 (t 34) (t 39)), s 7 (.mv (t 40))]))) (.region false [s 15 (.mv (t 9)), s 16 (.bin .add (t 15) (.const (.int .i64 1))), s 9 (.mv (t 16))])))))) (.seq (.seq (.region false [s 41 (.mv (t 8)), s 42 (.not (t 41))]) (.cond (t 42) (.region false [s 43 (.mv (t 7)), s 44 (.mv (t 1)), s 45 (.mv (t 2)), s 46 (.build [(.string (.mk (.mk []))), (.string (.mk (.mk [])))] [(0, 1), (1, 1)] [(t 44), (t 45)]), s 47 (.bslice 50 2 false [(t 46)]), s 48 (.append 50 2 32 (t 43) (t 47)), s 7 (.mv (t 48))]) .skip)) (.seq (.region false [s 49 (.mv (t 7)), s 6 (.mv (t 49))]) .ret))))))
def sSet.keep : List Nat := [0, 1, 2, 6, 7, 8, 9]
def sSet.res : List RRes := [.tmp 6]
theorem sSet.of {mo : Bool} {args : List AV} {r : AV} {frs : Fr} (hn : Nat.ble args.length Try.f94.ntmps = true) (h : aCode (Kn mo Try.prog) sSet.keep 0 sSet.code (doneK sSet.res r frs) ⟨argEnv 0 args, [], []⟩) : Abs.Ret mo Try.prog 94 args r frs :=
  Abs.Ret.of_ir Try.func94 rfl (by kernel_rfl) (Nat.le_of_ble_eq_true hn) (by kernel_rfl) (by kernel_rfl) h
abbrev sSet.Ret (args : List AV) (r : AV) (frs : Fr) : Prop := Abs.Ret true Try.prog 94 args r frs
def pisTuple.code : ACode := (.seq (.region false [s 6 (.mv (.const (.bool false)))]) (.seq (.seq (.region false [s 9 (.mv (t 0)), s 10 (.call 107 [(t 9)]), s 11 (.not (t 10)), s 12 (.mv (t 11)), g 12 false 13 (.mv (t 1)), g 12 false 14 (.len false (t 13)), g 12 false 15 (.bin .gtr (t 14) (.const (.int .i64 3))), s 16 (.or (t 12) (t 15))]) (.cond (t 16) (.seq (.region false [s 6 (.mv (.const (.bool false)))]) .ret) .skip)) (.seq (.seq (.region false [s 17 (.mv (t 1)), s 18 (.len false (t 17)), s 19 (.mv (.const (.int .i64 0)))]) (.block 0 (.loop (.seq (.region false [s 20 (.bin .lss (t 19) (t 18))]) (.seq (.cond (t 20) .skip (.exit 0)) (.seq (.block 1 (.seq (.region false [s 21 (.iadr 1 (t 17) (t 19)), s 22 (.load false 1 (t 21)), s 8 (.mv (t 22))]) (.seq (.region false [s 23 (.mv (t 2)), s 24 (.mv (t 8)), s 25 (.callv (t 23) [(t 24)]), s 26 (.not (t 25))]) (.cond (t 26) (.seq (.region false [s 6 (.mv (.const (.bool false)))]) .ret) .skip)))) (.region false [s 27 (.bin .add (t 19) (.const (.int .i64 1))), s 19 (.mv (t 27))]))))))) (.seq (.region false [s 6 (.mv (.const (.bool true)))]) .ret))))
def pisTuple.keep : List Nat := [0, 1, 2, 6, 8, 17, 18, 19, 20]
def pisTuple.res : List RRes := [.tmp 6]
theorem pisTuple.of {mo : Bool} {args : List AV} {r : AV} {frs : Fr} (hn : Nat.ble args.length Try.f74.ntmps = true) (h : aCode (Kn mo Try.prog) pisTuple.keep 0 pisTuple.code (doneK pisTuple.res r frs) ⟨argEnv 0 args, [], []⟩) : Abs.Ret mo Try.prog 74 args r frs :=
  Abs.Ret.of_ir Try.func74 rfl (by kernel_rfl) (Nat.le_of_ble_eq_true hn) (by kernel_rfl) (by kernel_rfl) h
abbrev pisTuple.Ret (args : List AV) (r : AV) (frs : Fr) : Prop := Abs.Ret true Try.prog 74 args r frs
def pmapOfPairs.code : ACode := (.seq (.region false [s 2 (.mv (.const (.map none)))]) (.seq (.region false [s 6 .mmap, s 3 (.mv (t 6))]) (.seq (.seq (.region false [s 7 (.mv (t 0)), s 8 (.len false (t 7)), s 9 (.mv (.const (.int .i64 0)))]) (.block 0 (.loop (.seq (.region false [s 10 (.bin .lss (t 9) (t 8))]) (.seq (.cond (t 10) .skip (.exit 0)) (.seq (.block 1 (.seq (.region false [s 11 (.iadr 2 (t 7) (t 9)), s 12 (.load true 2 (t 11)), s 5 (.alloc [(.string (.mk (.mk []))), (.string (.mk (.mk [])))]), ⟨none, none, (.store 2 (t 5) (t 12))⟩]) (.region false [s 13 (.mv (t 3)), s 14 (.fadr 0 (t 5)), s 15 (.load false 1 (t 14)), s 16 (.fadr 1 (t 5)), s 17 (.load false 1 (t 16)), ⟨none, none, (.mput (t 13) (t 15) (t 17))⟩]))) (.region false [s 18 (.bin .add (t 9) (.const (.int .i64 1))), s 9 (.mv (t 18))]))))))) (.seq (.region false [s 19 (.mv (t 3)), s 2 (.mv (t 19))]) .ret))))
def pmapOfPairs.keep : List Nat := [0, 2, 3, 5, 7, 8, 9, 10]
def pmapOfPairs.res : List RRes := [.tmp 2]
theorem pmapOfPairs.ofL {mo : Bool} {b0 : List ABox} {args : List AV} {Φ : AV → List ABox → Fr → Prop} (hd : noDead b0 = true) (hn : Nat.ble args.length Try.f52.ntmps = true) (h : aCode (Kn mo Try.prog) pmapOfPairs.keep b0.length pmapOfPairs.code (doneL pmapOfPairs.res Φ) ⟨argEnv 0 args, b0, []⟩) : Abs.Lent mo Try.prog 52 b0 args Φ :=
  Abs.Lent.of_ir hd Try.func52 rfl (by kernel_rfl) (Nat.le_of_ble_eq_true hn) (by kernel_rfl) (by kernel_rfl) h
abbrev pmapOfPairs.Lent (b0 : List ABox) (args : List AV) (Φ : AV → List ABox → Fr → Prop) : Prop := Abs.Lent true Try.prog 52 b0 args Φ
def pturnInto.code : ACode := (.seq (.region false [s 6 (.mv (.const (.bool false)))]) (.seq (.seq (.region false [s 11 (.mv (t 0)), s 12 (.len false (t 11)), s 13 (.mv (t 1)), s 14 (.len false (t 13)), s 15 (.bin .neq (t 12) (t 14))]) (.cond (t 15) (.seq (.region false [s 6 (.mv (.const (.bool false)))]) .ret) .skip)) (.seq (.seq (.region false [s 16 (.mv (t 0)), s 17 (.len false (t 16)), s 18 (.mv (.const (.int .i64 0)))]) (.block 0 (.loop (.seq (.region false [s 19 (.bin .lss (t 18) (t 17))]) (.seq (.cond (t 19) .skip (.exit 0)) (.seq (.block 1 (.seq (.region false [s 20 (.mv (t 18)), s 21 (.iadr 1 (t 16) (t 18)), s 22 (.load false 1 (t 21)), s 7 (.mv (t 20)), s 8 (.mv (t 22))]) (.seq (.region false [s 24 (.mv (t 2)), s 25 (.mv (t 8)), s 26 (.lookup true (t 24) (t 25)), s 23 (.mv (t 26)), s 27 (.extract (t 23) 0), s 28 (.extract (t 23) 1), s 9 (.mv (t 27)), s 10 (.mv (t 28))]) (.seq (.block 2 (.seq (.region false [s 30 (.mv (t 8)), s 31 (.call 61 [(t 30)]), s 32 (.not (t 31)), s 29 (.mv (t 32))]) (.cond (t 29) (.region false [s 33 (.mv (t 8)), s 9 (.mv (t 33))]) (.seq (.region false [s 35 (.mv (t 10)), s 36 (.not (t 35)), s 34 (.mv (t 36))]) (.cond (t 34) (.seq (.region false [s 37 (.mv (t 1)), s 38 (.mv (t 7)), s 39 (.iadr 1 (t 37) (t 38)), s 40 (.load false 1 (t 39)), s 9 (.mv (t 40))]) (.region false [s 41 (.mv (t 2)), s 42 (.mv (t 8)), s 43 (.mv (t 9)), ⟨none, none, (.mput (t 41) (t 42) (t 43))⟩])) .skip))))) (.seq (.region false [s 44 (.mv (t 9)), s 45 (.mv (t 1)), s 46 (.mv (t 7)), s 47 (.iadr 1 (t 45) (t 46)), s 48 (.load false 1 (t 47)), s 49 (.bin .neq (t 44) (t 48))]) (.cond (t 49) (.seq (.region false [s 6 (.mv (.const (.bool false)))]) .ret) .skip)))))) (.region false [s 50 (.bin .add (t 18) (.const (.int .i64 1))), s 18 (.mv (t 50))]))))))) (.seq (.region false [s 6 (.mv (.const (.bool true)))]) .ret))))
def pturnInto.keep : List Nat := [0, 1, 2, 6, 7, 8, 9, 10, 16, 17, 18, 19]
def pturnInto.res : List RRes := [.tmp 6]
theorem pturnInto.ofL {mo : Bool} {b0 : List ABox} {args : List AV} {Φ : AV → List ABox → Fr → Prop} (hd : noDead b0 = true) (hn : Nat.ble args.length Try.f53.ntmps = true) (h : aCode (Kn mo Try.prog) pturnInto.keep b0.length pturnInto.code (doneL pturnInto.res Φ) ⟨argEnv 0 args, b0, []⟩) : Abs.Lent mo Try.prog 53 b0 args Φ :=
  Abs.Lent.of_ir hd Try.func53 rfl (by kernel_rfl) (Nat.le_of_ble_eq_true hn) (by kernel_rfl) (by kernel_rfl) h
abbrev pturnInto.Lent (b0 : List ABox) (args : List AV) (Φ : AV → List ABox → Fr → Prop) : Prop := Abs.Lent true Try.prog 53 b0 args Φ
def ppairsOfMap.code : ACode := (.seq (.region false [s 2 (.mv (.const (.slice none 0 0)))]) (.seq (.region false [s 6 (.bslice 50 2 true []), s 3 (.mv (t 6))]) (.seq (.seq (.region false [s 7 (.mv (t 0)), s 8 (.call 92 [(t 7)]), s 9 (.call 91 [(t 8)]), s 10 (.len false (t 9)), s 11 (.mv (.const (.int .i64 0)))]) (.block 0 (.loop (.seq (.region false [s 12 (.bin .lss (t 11) (t 10))]) (.seq (.cond (t 12) .skip (.exit 0)) (.seq (.block 1 (.seq (.region false [s 13 (.iadr 1 (t 9) (t 11)), s 14 (.load false 1 (t 13)), s 5 (.mv (t 14))]) (.region false [s 15 (.mv (t 3)), s 16 (.mv (t 5)), s 17 (.mv (t 0)), s 18 (.mv (t 5)), s 19 (.lookup false (t 17) (t 18)), s 20 (.build [(.string (.mk (.mk []))), (.string (.mk (.mk [])))] [(0, 1), (1, 1)] [(t 16), (t 19)]), s 21 (.bslice 50 2 false [(t 20)]), s 22 (.append 50 2 32 (t 15) (t 21)), s 3 (.mv (t 22))]))) (.region false [s 23 (.bin .add (t 11) (.const (.int .i64 1))), s 11 (.mv (t 23))]))))))) (.seq (.region false [s 24 (.mv (t 3)), s 2 (.mv (t 24))]) .ret))))
def ppairsOfMap.keep : List Nat := [0, 2, 3, 5, 9, 10, 11, 12]
def ppairsOfMap.res : List RRes := [.tmp 2]
theorem ppairsOfMap.ofL {mo : Bool} {b0 : List ABox} {args : List AV} {Φ : AV → List ABox → Fr → Prop} (hd : noDead b0 = true) (hn : Nat.ble args.length Try.f54.ntmps = true) (h : aCode (Kn mo Try.prog) ppairsOfMap.keep b0.length ppairsOfMap.code (doneL ppairsOfMap.res Φ) ⟨argEnv 0 args, b0, []⟩) : Abs.Lent mo Try.prog 54 b0 args Φ :=
  Abs.Lent.of_ir hd Try.func54 rfl (by kernel_rfl) (Nat.le_of_ble_eq_true hn) (by kernel_rfl) (by kernel_rfl) h
def slContains.code : ACode := (.seq (.region false [s 4 (.mv (.const (.bool false)))]) (.seq (.region false [s 5 (.mv (t 0)), s 6 (.mv (t 1)), s 7 (.call 100 [(t 5), (t 6)]), s 8 (.bin .geq (t 7) (.const (.int .i64 0))), s 4 (.mv (t 8))]) .ret))
def slContains.keep : List Nat := [0, 1, 4]
def slContains.res : List RRes := [.tmp 4]
theorem slContains.of {mo : Bool} {args : List AV} {r : AV} {frs : Fr} (hn : Nat.ble args.length Try.f64.ntmps = true) (h : aCode (Kn mo Try.prog) slContains.keep 0 slContains.code (doneK slContains.res r frs) ⟨argEnv 0 args, [], []⟩) : Abs.Ret mo Try.prog 64 args r frs :=
  Abs.Ret.of_ir Try.func64 rfl (by kernel_rfl) (Nat.le_of_ble_eq_true hn) (by kernel_rfl) (by kernel_rfl) h
abbrev slContains.Ret (args : List AV) (r : AV) (frs : Fr) : Prop := Abs.Ret true Try.prog 64 args r frs
def slIndex.code : ACode := (.seq (.region false [s 4 (.mv (.const (.int .i64 0)))]) (.seq (.seq (.region false [s 6 (.mv (t 0)), s 7 (.len false (t 6)), s 8 (.mv (.const (.int .i64 0)))]) (.block 0 (.loop (.seq (.region false [s 9 (.bin .lss (t 8) (t 7))]) (.seq (.cond (t 9) .skip (.exit 0)) (.seq (.block 1 (.seq (.region false [s 10 (.mv (t 8)), s 5 (.mv (t 10))]) (.seq (.region false [s 11 (.mv (t 1)), s 12 (.mv (t 0)), s 13 (.mv (t 5)), s 14 (.iadr 1 (t 12) (t 13)), s 15 (.load false 1 (t 14)), s 16 (.bin .eql (t 11) (t 15))]) (.cond (t 16) (.seq (.region false [s 17 (.mv (t 5)), s 4 (.mv (t 17))]) .ret) .skip)))) (.region false [s 18 (.bin .add (t 8) (.const (.int .i64 1))), s 8 (.mv (t 18))]))))))) (.seq (.region false [s 4 (.mv (.const (.int .i64 (-1))))]) .ret)))
def slIndex.keep : List Nat := [0, 1, 4, 5, 7, 8, 9]
def slIndex.res : List RRes := [.tmp 4]
theorem slIndex.of {mo : Bool} {args : List AV} {r : AV} {frs : Fr} (hn : Nat.ble args.length Try.f100.ntmps = true) (h : aCode (Kn mo Try.prog) slIndex.keep 0 slIndex.code (doneK slIndex.res r frs) ⟨argEnv 0 args, [], []⟩) : Abs.Ret mo Try.prog 100 args r frs :=
  Abs.Ret.of_ir Try.func100 rfl (by kernel_rfl) (Nat.le_of_ble_eq_true hn) (by kernel_rfl) (by kernel_rfl) h
abbrev slIndex.Ret (args : List AV) (r : AV) (frs : Fr) : Prop := Abs.Ret true Try.prog 100 args r frs
def slKeys.code : ACode := (.seq (.region false [s 1 (.box (t 0)), s 2 (.mv (.const .nilFunc))]) (.seq (.region false [s 3 (.clo 123 [] [(t 1)]), s 2 (.mv (t 3))]) .ret))
def slKeys.keep : List Nat := [0, 1, 2]
def slKeys.res : List RRes := [.tmp 2]
theorem slKeys.ofL {mo : Bool} {b0 : List ABox} {args : List AV} {Φ : AV → List ABox → Fr → Prop} (hd : noDead b0 = true) (hn : Nat.ble args.length Try.f92.ntmps = true) (h : aCode (Kn mo Try.prog) slKeys.keep b0.length slKeys.code (doneL slKeys.res Φ) ⟨argEnv 0 args, b0, []⟩) : Abs.Lent mo Try.prog 92 b0 args Φ :=
  Abs.Lent.of_ir hd Try.func92 rfl (by kernel_rfl) (Nat.le_of_ble_eq_true hn) (by kernel_rfl) (by kernel_rfl) h
abbrev slKeys.Lent (b0 : List ABox) (args : List AV) (Φ : AV → List ABox → Fr → Prop) : Prop := Abs.Lent true Try.prog 92 b0 args Φ
end Go.Proofs.Ytkbblglbbfdnpaa
namespace Go.Proofs.Ytkbblglbbfdnpaa
open Abs
def termF (x : Str) : Bool := atomF x || varF x
theorem allQ_no {q : Str → Bool} {x : List Str} {i : Nat} (hi : i < x.length) (h : q (x.getD i []) = false) : x.all q = false := by
  rw [List.all_eq_false]
  refine ⟨x.getD i [], ?_, by rw [h]; simp⟩
  simp [List.getD, hi]
theorem allQ_succ {q : Str → Bool} {x : List Str} {i : Nat} (hi : i < x.length) (h : (x.take i).all q = true) (hc : q (x.getD i []) = true) : (x.take (i + 1)).all q = true := by
  rw [take_succ' [] hi, List.all_append, h]; simpa using hc
def tupF (q : Str → Bool) (f : Fct) : Bool := nameF f.1 && decide ((f.2.length : Int) ≤ 3) && f.2.all q
abbrev isPatF (f : VPattern) : Bool := tupF termF f
theorem pisTuple.ret (q : Str → Bool) (F : Nat) (hq : ∀ s : Str, s.length ≤ 1048576 → Abs.Ret true Try.prog F [.str s] (.val (.bool (q s))) []) (r : Str) (l : List Str) (h : r.length + listSize Ty.str l ≤ 1048576) (hl : l.length ≤ 1048576) :
    pisTuple.Ret [.str r, .list none (strs l), .clo F [] []] (.val (.bool (tupF q (r, l)))) [] := by
  refine pisTuple.of rfl ?_
  repeat' first
    | (conv => whnf
       first | refine Need.mk (fun h => h) ?_ | refine Need.mk rfl ?_ | refine Fork.mk (fun _ => ?_) (fun _ => ?_) | refine LitO.own rfl ?_ | refine FinVal.keep ?_ | refine Final.mk ?_ rfl | refine ACall.scalA _ _ (pIsName.ret _ ?_) rfl ?_)
    | refine AV.bool_congr ?_
  · omega
  · rename_i h1
    simp only [length_strs] at h1
    unfold tupF
    cases hn : nameF r
    · simp
    · rw [hn] at h1
      have : ¬ (l.length : Int) ≤ 3 := by simp at h1; omega
      simp [this]
  rename_i h1
  simp only [length_strs] at h1
  have hn : nameF r = true := by revert h1; cases nameF r <;> simp
  have hl3 : (l.length : Int) ≤ 3 := by rw [hn] at h1; simp at h1; omega
  skip
  refine ALoop.mk Nat (fun i => ⟨[(0, .str r), (1, .list none (strs l)), (2, .clo F [] []), (17, .list none (strs l)), (18, .val (.int .i64 l.length)), (19, .val (.int .i64 i))], [], []⟩) (fun i => i ≤ l.length ∧ (l.take i).all q = true) (fun i => l.length - i) ⟨0, ⟨Nat.zero_le _, rfl⟩, ?_⟩ (fun i hi => ?_)
  · repeat' first
      | exact trivial | refine Weak.mk ?_ ?_ ?_ ?_ (Or.inl (Nat.le_of_ble_eq_true rfl)) | refine And.intro ?_ ?_ | with_reducible rfl | exact Nat.le_of_ble_eq_true rfl | refine AV.int_congr ?_ | refine AV.str_congr ?_ | refine AV.list_congr ?_ | (apply rfl)
    simp
  repeat' first
    | (conv => whnf
       first | refine Need.mk rfl ?_ | refine Ix.strsF rfl ?_ | refine Fork.dec (fun _ => ?_) (fun _ => ?_) | refine Fork.neg (fun _ => ?_) (fun _ => ?_) | refine Round.mk ?_ | refine LitO.own rfl ?_ | refine FinVal.keep ?_ | refine Final.mk ?_ rfl | refine ACall.scalA _ _ (hq _ ?_) rfl ?_)
    | refine AV.bool_congr ?_
  all_goals try simp only [length_rows, length_strs, length_oldLL, List.length_map, Int.toNat_natCast] at *
  · have := str_le (l := l) (i := i) (by omega); omega
  · rename_i h1 h2
    simp [tupF, allQ_no (by omega) h2]
  · rename_i h1 h2
    refine ⟨i + 1, ⟨by omega, allQ_succ (by omega) hi.2 h2⟩, ?_, by omega⟩
    repeat' first
      | exact trivial | refine Weak.mk ?_ ?_ ?_ ?_ (Or.inl (Nat.le_of_ble_eq_true rfl)) | refine And.intro ?_ ?_ | with_reducible rfl | exact Nat.le_of_ble_eq_true rfl | refine AV.int_congr ?_ | refine AV.str_congr ?_ | refine AV.list_congr ?_ | (apply rfl)
    rw [wrap64 (by omega) (by omega)]; rfl
  · have := hi.2
    rw [List.take_of_length_le (by omega)] at this
    simp [tupF, this, hn, hl3]
theorem pIsFact.ret (f : Fct) (h : tFct.size f ≤ 1048576) : pIsFact.Ret [.agg (oldL (tFct.q f))] (.val (.bool (isFactF f))) [] := by
  refine pIsFact.of rfl ?_
  rw [tFct_size, tStrs_size] at h
  have ht : pisTuple.Ret [.str f.1, .list none (strs f.2), .clo 62 [] []] (.val (.bool (isFactF f))) [] := pisTuple.ret atomF _ (fun s hs => pIsAtom.ret s hs) f.1 f.2 (by omega) (by omega)
  repeat' first
    | (conv => whnf
       first | refine FinVal.keep ?_ | refine Final.mk rfl rfl | refine ACall.scalA _ _ (ht) rfl ?_)
theorem pIsPattern.ret (f : VPattern) (h : tPattern.size f ≤ 1048576) : pIsPattern.Ret [.agg (oldL (tPattern.q f))] (.val (.bool (isPatF f))) [] := by
  refine pIsPattern.of rfl ?_
  have h : tFct.size f ≤ 1048576 := h
  rw [tFct_size, tStrs_size] at h
  have ht : pisTuple.Ret [.str f.1, .list none (strs f.2), .clo 90 [] []] (.val (.bool (isPatF f))) [] := pisTuple.ret termF _ (fun s hs => pIsTerm.ret s hs) f.1 f.2 (by omega) (by omega)
  repeat' first
    | (conv => whnf
       first | refine FinVal.keep ?_ | refine Final.mk rfl rfl | refine ACall.scalA _ _ (ht) rfl ?_)
theorem sIsPattern.ret (f : VPattern) (h : tPattern.size f ≤ 1048576) : sIsPattern.Ret [.agg (oldL (tPattern.q f))] (.val (.bool (isPatF f))) [] := by
  refine sIsPattern.of rfl ?_
  have h : tFct.size f ≤ 1048576 := h
  rw [tFct_size, tStrs_size] at h
  skip
  refine ALoop.mk Nat (fun i => ⟨[(1, .bptr 0 0), (3, .val (.int .i64 i))], [.cells .var (oldL (tPattern.q f))], []⟩) (fun i => i ≤ f.2.length ∧ (f.2.take i).all termF = true) (fun i => f.2.length - i) ⟨0, ⟨Nat.zero_le _, rfl⟩, ?_⟩ (fun i hi => ?_)
  · repeat' first
      | exact trivial | refine Weak.mk ?_ ?_ ?_ ?_ (Or.inl (Nat.le_of_ble_eq_true rfl)) | refine And.intro ?_ ?_ | with_reducible rfl | exact Nat.le_of_ble_eq_true rfl | refine AV.int_congr ?_ | (apply rfl)
  repeat' first
    | (conv => whnf
       first | refine Need.mk (fun h => h) ?_ | refine Need.mk rfl ?_ | refine Ix.strsF rfl ?_ | refine Fork.dec (fun _ => ?_) (fun _ => ?_) | refine Fork.neg (fun _ => ?_) (fun _ => ?_) | refine Round.mk ?_ | refine LitO.own rfl ?_ | refine FinVal.keep ?_ | refine Final.mk ?_ rfl | refine ACall.scalA _ _ (sIsTerm.ret _ ?_) rfl ?_ | refine ACall.scalA _ _ (sIsName.ret _ ?_) rfl ?_)
    | refine AV.bool_congr ?_
  all_goals try simp only [length_rows, length_strs, length_oldLL, List.length_map, Int.toNat_natCast] at *
  · have := str_le (l := f.2) (i := i) (by omega); omega
  · rename_i h2 h1
    have h2 : termF (f.2.getD i []) = false := h2
    simp [tupF, allQ_no (by omega) h2]
  · rename_i h2 h1
    refine ⟨i + 1, ⟨by omega, allQ_succ (by omega) hi.2 h2⟩, ?_, by omega⟩
    repeat' first
      | exact trivial | refine Weak.mk ?_ ?_ ?_ ?_ (Or.inl (Nat.le_of_ble_eq_true rfl)) | refine And.intro ?_ ?_ | with_reducible rfl | exact Nat.le_of_ble_eq_true rfl | refine AV.int_congr ?_ | (apply rfl)
    rw [wrap64 (by omega) (by omega)]; rfl
  · omega
  · have := hi.2
    rw [List.take_of_length_le (by omega)] at this
    simp [tupF, this]
end Go.Proofs.Ytkbblglbbfdnpaa
namespace Go.Proofs.Ytkbblglbbfdnpaa
open Abs
abbrev VPair := Str × Str
instance : DecidableEq VPair := instDecidableEqProd
def tPair : Ty VPair := Ty.pair Ty.str Ty.str
def tPairs : Ty (List VPair) := Ty.plain 50 tPair (fun _ => rfl) (fun _ => rfl)
theorem tPairs_sz (l : List VPair) : tPairs.size l = l.length + listSize tPair l := rfl
theorem tPair_get {l : List VPair} {i : Nat} (hi : i < l.length) : l[i]? = some (l.getD i default) := by simp [List.getD, hi]
theorem tPair_le {l : List VPair} {i : Nat} (hi : i < l.length) : tPair.size (l.getD i default) ≤ listSize tPair l := listSize_mem tPair (List.mem_of_getElem? (tPair_get hi))
end Go.Proofs.Ytkbblglbbfdnpaa
namespace Go.Proofs.Ytkbblglbbfdnpaa
namespace Abs
variable {α : Type}
theorem rows_snoc (T : Ty α) (l : List α) (a : α) : rows T l ++ [oldL (T.q a)] = rows T (l ++ [a]) := by simp [rows, oldLL_eq, oldL_eq]
theorem rows_cut (T : Ty α) (l : List α) : ∀ c ∈ rows T l, c.length = T.sz := oldLL_sz T.hq
theorem plain_ownA (T : Ty α) (hf : ∀ a, T.fr a = []) (e : ∀ a, T.tk a 0 = oldL (T.q a)) (F : Fr) (t k : Nat) (l : List α) (hk : F[k]? = some (t, T.sz, l.length)) {xs : List Tr} {cs : List AV} (h : OwnA F xs cs []) :
    OwnA F (.l t T.sz (l.map T.q) :: xs) (.list (some k) (rows T l) :: cs) [k] := by
  have h3 := own_plain T hf 0 F l
  have e2 : (l.map fun a => T.tk a 0) = rows T l := by rw [rows, oldLL_eq, List.map_map]; exact List.map_congr_left fun a _ => by rw [e, oldL_eq]; rfl
  rw [e2] at h3
  exact .l t T.sz _ k _ (by rw [hk, List.length_map]) (by simp) (fun e he => by obtain ⟨a, _, rfl⟩ := List.mem_map.1 he; exact T.hq a) (rows_cut T l) h3 h
theorem plain_own {mo : Bool} {P : Program} {f : Nat} {args : List AV} (T : Ty α) (hf : ∀ a, T.fr a = []) (e : ∀ a, T.tk a 0 = oldL (T.q a)) {F : Fr} (t k : Nat) {l : List α} (hk : F[k]? = some (t, T.sz, l.length)) (h : Ret mo P f args (.list (some k) (rows T l)) F) :
    Own mo P f args (.l t T.sz (l.map T.q)) := h.own [k] (plain_ownA T hf e F t k l hk .nil) (by simp)
end Abs
end Go.Proofs.Ytkbblglbbfdnpaa
namespace Go.Proofs.Ytkbblglbbfdnpaa
open Abs
abbrev pairs (b : List VPair) : List (List AV) := rows tPair b
theorem pr_le {l : List VPair} (i : Nat) : (l.getD i default).1.length + (l.getD i default).2.length ≤ listSize tPair l := by
  rcases Nat.lt_or_ge i l.length with h | h
  · exact tPair_le h
  · have : l.getD i default = default := by simp [List.getD, List.getElem?_eq_none h]
    rw [this]; exact Nat.zero_le _
def badB (b : List VPair) (i : Nat) : Bool := !varF (b.getD i default).1 || !atomF (b.getD i default).2 || decide ((0 : Int) < i) && !Op.bytesLess (b.getD (i - 1) default).1 (b.getD i default).1
theorem badB_step {b : List VPair} {i : Nat} {x : Int} (hx : x = (i : Int) - 1) :
    (!varF (b.getD i default).1 || !atomF (b.getD i default).2 || decide ((0 : Int) < i) && !Op.bytesLess (b.getD x.toNat default).1 (b.getD i default).1) = badB b i := by
  subst hx
  unfold badB
  rw [show ((i : Int) - 1).toNat = i - 1 by omega]
@[irreducible] def bindF (b : List VPair) : Bool := decide ((b.length : Int) ≤ 6) && (List.range b.length).all fun i => !badB b i
theorem bindF_no {b : List VPair} {i : Nat} (hi : i < b.length) (h : badB b i = true) : bindF b = false := by
  have : ((List.range b.length).all fun i => !badB b i) = false := by
    rw [List.all_eq_false]
    exact ⟨i, List.mem_range.2 hi, by simp [h]⟩
  unfold bindF; rw [this, Bool.and_false]
theorem bindF_yes {b : List VPair} (h : ∀ j, j < b.length → badB b j = false) : bindF b = decide ((b.length : Int) ≤ 6) := by
  have : ((List.range b.length).all fun i => !badB b i) = true := by
    rw [List.all_eq_true]
    intro j hj
    simp [h j (List.mem_range.1 hj)]
  unfold bindF; rw [this, Bool.and_true]
theorem bindF_long {b : List VPair} (h : ¬ (b.length : Int) ≤ 6) : bindF b = false := by unfold bindF; simp [h]
theorem sIsBinding.ret (b : List VPair) (h : tPairs.size b ≤ 1048576) : sIsBinding.Ret [.list none (pairs b)] (.val (.bool (bindF b))) [] := by
  refine sIsBinding.of rfl ?_
  rw [tPairs_sz] at h
  skip
  refine ALoop.mk Nat (fun i => ⟨[(0, .list none (pairs b)), (3, .val (.int .i64 i))], [], []⟩) (fun i => i ≤ b.length ∧ ∀ j, j < i → badB b j = false) (fun i => b.length - i) ⟨0, ⟨Nat.zero_le _, by omega⟩, ?_⟩ (fun i hi => ?_)
  · repeat' first
      | exact trivial | refine Weak.mk ?_ ?_ ?_ ?_ (Or.inl (Nat.le_of_ble_eq_true rfl)) | refine And.intro ?_ ?_ | with_reducible rfl | exact Nat.le_of_ble_eq_true rfl | refine AV.int_congr ?_ | refine AV.list_congr ?_ | (apply rfl)
  have hw : i < b.length → IntKind.i64.wrap ((i : Int) - 1) = (i : Int) - 1 := fun h => wrap64 (by omega) (by omega)
  have hp := pr_le (l := b) i
  have hp' := pr_le (l := b) (i - 1)
  repeat' first
    | (conv => whnf
       first | refine Need.mk (fun h => h) ?_ | refine Need.mk rfl ?_ | refine Ix.mapF (fun _ => rfl) ?_ | refine Fork.dec (fun _ => ?_) (fun _ => ?_) | refine Fork.mk (fun _ => ?_) (fun _ => ?_) | refine Round.mk ?_ | refine LitO.own rfl ?_ | refine FinVal.keep ?_ | refine Final.mk ?_ rfl | refine AQCall.mkA _ _ (fun hg => sIsVar.ret _ ?_) rfl ?_ | refine AQCall.mkA _ _ (fun hg => sIsAtom.ret _ ?_) rfl ?_)
    | refine AV.bool_congr ?_
  all_goals try simp only [length_rows, length_strs, length_oldLL, List.length_map, Int.toNat_natCast] at *
  all_goals try omega
  · rename_i h1 h2
    rw [badB_step (hw (by omega))] at h1
    rw [bindF_no (by omega) h1]
  · rename_i h1 h2
    rw [badB_step (hw (by omega))] at h1
    refine ⟨i + 1, ⟨by omega, fun j hj => ?_⟩, ?_, by omega⟩
    · rcases Nat.lt_or_ge j i with h | h
      · exact hi.2 j h
      · have : j = i := by omega
        subst this; exact h1
    · repeat' first
        | exact trivial | refine Weak.mk ?_ ?_ ?_ ?_ (Or.inl (Nat.le_of_ble_eq_true rfl)) | refine And.intro ?_ ?_ | with_reducible rfl | exact Nat.le_of_ble_eq_true rfl | refine AV.int_congr ?_ | refine AV.list_congr ?_ | (apply rfl)
      rw [wrap64 (by omega) (by omega)]; rfl
  · rw [bindF_yes (fun j hj => hi.2 j (by omega))]
theorem pIsBinding.ret (b : List VPair) (h : tPairs.size b ≤ 1048576) : pIsBinding.Ret [.list none (pairs b)] (.val (.bool (bindF b))) [] := by
  refine pIsBinding.of rfl ?_
  rw [tPairs_sz] at h
  repeat' first
    | (conv => whnf
       first | refine Need.mk rfl ?_ | refine Fork.dec (fun _ => ?_) (fun _ => ?_) | refine LitO.own rfl ?_ | refine FinVal.keep ?_ | refine Final.mk ?_ rfl)
    | refine AV.bool_congr ?_
  · rename_i h1
    rw [length_rows] at h1
    rw [bindF_long (by omega)]
  rename_i h6
  rw [length_rows] at h6
  skip
  refine ALoop.mk Nat (fun i => ⟨[(0, .list none (pairs b)), (8, .list none (pairs b)), (9, .val (.int .i64 b.length)), (10, .val (.int .i64 i))], [], []⟩) (fun i => i ≤ b.length ∧ ∀ j, j < i → badB b j = false) (fun i => b.length - i) ⟨0, ⟨Nat.zero_le _, by omega⟩, ?_⟩ (fun i hi => ?_)
  · repeat' first
      | exact trivial | refine Weak.mk ?_ ?_ ?_ ?_ (Or.inl (Nat.le_of_ble_eq_true rfl)) | refine And.intro ?_ ?_ | with_reducible rfl | exact Nat.le_of_ble_eq_true rfl | refine AV.int_congr ?_ | refine AV.list_congr ?_ | (apply rfl)
    simp
  have hw : i < b.length → IntKind.i64.wrap ((i : Int) - 1) = (i : Int) - 1 := fun h => wrap64 (by omega) (by omega)
  have hp := pr_le (l := b) i
  have hp' := pr_le (l := b) (i - 1)
  repeat' first
    | (conv => whnf
       first | refine Need.mk (fun h => h) ?_ | refine Need.mk rfl ?_ | refine Need.mk ⟨rfl, Nat.le_of_ble_eq_true rfl⟩ ?_ | refine Need.mk (Nat.le_of_ble_eq_true rfl) ?_ | refine Ix.mapF (fun _ => rfl) ?_ | refine Fork.dec (fun _ => ?_) (fun _ => ?_) | refine Fork.mk (fun _ => ?_) (fun _ => ?_) | refine Round.mk ?_ | refine LitO.own rfl ?_ | refine FinVal.keep ?_ | refine Final.mk ?_ rfl | refine AQCall.mkA _ _ (fun hg => pIsVar.ret _ ?_) rfl ?_ | refine AQCall.mkA _ _ (fun hg => pIsAtom.ret _ ?_) rfl ?_)
    | refine AV.bool_congr ?_
  all_goals try simp only [length_rows, length_strs, length_oldLL, List.length_map, Int.toNat_natCast] at *
  all_goals try omega
  · rename_i h2 h1
    rw [badB_step (hw (by omega))] at h1
    rw [bindF_no (by omega) h1]
  · rename_i h2 h1
    rw [badB_step (hw (by omega))] at h1
    refine ⟨i + 1, ⟨by omega, fun j hj => ?_⟩, ?_, by omega⟩
    · rcases Nat.lt_or_ge j i with h | h
      · exact hi.2 j h
      · have : j = i := by omega
        subst this; exact h1
    · repeat' first
        | exact trivial | refine Weak.mk ?_ ?_ ?_ ?_ (Or.inr ⟨(by repeat' first | exact trivial | exact Nat.le_of_ble_eq_true rfl | refine And.intro ?_ ?_), (by repeat' first | exact trivial | exact Nat.le_of_ble_eq_true rfl | refine And.intro ?_ ?_)⟩) | refine And.intro ?_ ?_ | with_reducible rfl | exact Nat.le_of_ble_eq_true rfl | refine AV.int_congr ?_ | refine AV.list_congr ?_ | (apply rfl)
      rw [wrap64 (by omega) (by omega)]; rfl
  · rw [bindF_yes (fun j hj => hi.2 j (by omega))]; simp; omega
def lookV : List VPair → Str → Option Str
  | [], _ => none
  | p :: b, t => if p.1 = t then some p.2 else lookV b t
theorem lookV_drop {b : List VPair} {t : Str} {i : Nat} (hi : i < b.length) : lookV (b.drop i) t = if (b.getD i default).1 = t then some (b.getD i default).2 else lookV (b.drop (i + 1)) t := by
  rw [List.drop_eq_getElem_cons hi, lookV]
  simp [List.getD, hi]
@[irreducible] def valF (b : List VPair) (t : Str) : Str × Bool := if atomF t then (t, true) else if varF t then (match lookV b t with | some v => (v, true) | none => ([], false)) else ([], false)
theorem valF_hit {b : List VPair} {t v : Str} (h1 : atomF t = false) (h2 : varF t = true) (h : lookV b t = some v) : valF b t = (v, true) := by
  unfold valF; rw [if_neg (by simp [h1]), if_pos h2, h]
theorem valF_miss {b : List VPair} {t : Str} (h1 : atomF t = false) (h : varF t = true → lookV b t = none) : valF b t = ([], false) := by
  unfold valF; rw [if_neg (by simp [h1])]
  split
  · rename_i hv; rw [h hv]
  · rfl
theorem sValueOf.big (b : List VPair) (t : Str) (h : tPairs.size b ≤ 1099511627775) (ht : t.length ≤ 1048576) : sValueOf.Ret [.list none (pairs b), .str t] (.tup [.str (valF b t).1, .val (.bool (valF b t).2)]) [] := by
  refine sValueOf.ofS rfl rfl ?_
  rw [tPairs_sz] at h
  repeat' first
    | (conv => whnf
       first | refine Fork.mk (fun _ => ?_) (fun _ => ?_) | refine FinVal.keep ?_ | refine Final.mk ?_ rfl | refine ACall.scalA _ _ (sIsAtom.ret _ ?_) rfl ?_)
  · exact ht
  · rename_i h1; unfold valF; rw [if_pos h1]
  rename_i h1
  refine ALoop.mk Nat (fun i => ⟨[(0, .list none (pairs b)), (1, .str t), (6, .val (.int .i64 i))], [], []⟩) (fun i => i ≤ b.length ∧ (varF t = true → lookV (b.drop i) t = lookV b t)) (fun i => b.length - i) ⟨0, ⟨Nat.zero_le _, fun _ => rfl⟩, ?_⟩ (fun i hi => ?_)
  · repeat' first
      | exact trivial | refine Weak.mk ?_ ?_ ?_ ?_ (Or.inl (Nat.le_of_ble_eq_true rfl)) | refine And.intro ?_ ?_ | with_reducible rfl | exact Nat.le_of_ble_eq_true rfl | refine AV.int_congr ?_ | refine AV.str_congr ?_ | refine AV.list_congr ?_ | (apply rfl)
  repeat' first
    | (conv => whnf
       first | refine Need.mk (fun h => h) ?_ | refine Need.mk rfl ?_ | refine Ix.mapF (fun _ => rfl) ?_ | refine Fork.dec (fun _ => ?_) (fun _ => ?_) | refine Fork.mk (fun _ => ?_) (fun _ => ?_) | refine Round.mk ?_ | refine LitO.own rfl ?_ | refine FinVal.keep ?_ | refine Final.mk ?_ rfl | refine AGCall.mkA _ _ (fun hg => sIsVar.ret _ ?_) rfl ?_)
  all_goals try simp only [length_rows, length_strs, length_oldLL, List.length_map, Int.toNat_natCast] at *
  · exact ht
  · rename_i h2 h3
    simp only [Bool.and_eq_true, beq_iff_eq] at h2
    have h4 := lookV_drop (b := b) (t := t) (i := i) (by omega)
    rw [if_pos h2.1, hi.2 h2.2] at h4
    rw [valF_hit h1 h2.2 h4]
  · rename_i h2 h3
    have h4 := lookV_drop (b := b) (t := t) (i := i) (by omega)
    refine ⟨i + 1, ⟨by omega, fun hv => ?_⟩, ?_, by omega⟩
    · rw [hv] at h2
      rw [if_neg (by simpa using h2), hi.2 hv] at h4
      exact h4.symm
    repeat' first
      | exact trivial | refine Weak.mk ?_ ?_ ?_ ?_ (Or.inl (Nat.le_of_ble_eq_true rfl)) | refine And.intro ?_ ?_ | with_reducible rfl | exact Nat.le_of_ble_eq_true rfl | refine AV.int_congr ?_ | refine AV.str_congr ?_ | refine AV.list_congr ?_ | (apply rfl)
    rw [wrap64 (by omega) (by omega)]; rfl
  · rw [valF_miss h1 (fun hv => by rw [← hi.2 hv, List.drop_eq_nil_of_le (by omega)]; rfl)]
theorem pValueOf.big (b : List VPair) (t : Str) (h : tPairs.size b ≤ 1099511627775) (ht : t.length ≤ 1048576) : pValueOf.Ret [.list none (pairs b), .str t] (.tup [.str (valF b t).1, .val (.bool (valF b t).2)]) [] := by
  refine pValueOf.ofS rfl rfl ?_
  rw [tPairs_sz] at h
  repeat' first
    | (conv => whnf
       first | refine Fork.neg (fun _ => ?_) (fun _ => ?_) | refine Fork.mk (fun _ => ?_) (fun _ => ?_) | refine FinVal.keep ?_ | refine Final.mk ?_ rfl | refine ACall.scalA _ _ (pIsAtom.ret _ ?_) rfl ?_ | refine ACall.scalA _ _ (pIsVar.ret _ ?_) rfl ?_)
  · exact ht
  · rename_i h1; unfold valF; rw [if_pos h1]
  · exact ht
  · rename_i h1 h2; unfold valF; rw [if_neg (by simpa using h1), if_neg (by simpa using h2)]
  rename_i h1 h2
  refine ALoop.mk Nat (fun i => ⟨[(0, .list none (pairs b)), (1, .str t), (14, .list none (pairs b)), (15, .val (.int .i64 b.length)), (16, .val (.int .i64 i))], [], []⟩) (fun i => i ≤ b.length ∧ lookV (b.drop i) t = lookV b t) (fun i => b.length - i) ⟨0, ⟨Nat.zero_le _, rfl⟩, ?_⟩ (fun i hi => ?_)
  · repeat' first
      | exact trivial | refine Weak.mk ?_ ?_ ?_ ?_ (Or.inl (Nat.le_of_ble_eq_true rfl)) | refine And.intro ?_ ?_ | with_reducible rfl | exact Nat.le_of_ble_eq_true rfl | refine AV.int_congr ?_ | refine AV.str_congr ?_ | refine AV.list_congr ?_ | (apply rfl)
    simp
  repeat' first
    | (conv => whnf
       first | refine Need.mk rfl ?_ | refine Need.mk ⟨rfl, Nat.le_of_ble_eq_true rfl⟩ ?_ | refine Need.mk (Nat.le_of_ble_eq_true rfl) ?_ | refine Ix.mapF (fun _ => rfl) ?_ | refine Fork.dec (fun _ => ?_) (fun _ => ?_) | refine Fork.seq (fun _ => ?_) (fun _ => ?_) | refine Round.mk ?_ | refine LitO.own rfl ?_ | refine FinVal.keep ?_ | refine Final.mk ?_ rfl)
  all_goals try simp only [length_rows, length_strs, length_oldLL, List.length_map, Int.toNat_natCast] at *
  · rename_i h3 h4
    have h5 := lookV_drop (b := b) (t := t) (i := i) (by omega)
    rw [if_pos h4, hi.2] at h5
    rw [valF_hit h1 h2 h5]
  · rename_i h3 h4
    have h5 := lookV_drop (b := b) (t := t) (i := i) (by omega)
    rw [if_neg h4, hi.2] at h5
    refine ⟨i + 1, ⟨by omega, h5.symm⟩, ?_, by omega⟩
    repeat' first
      | exact trivial | refine Weak.mk ?_ ?_ ?_ ?_ (Or.inr ⟨(by repeat' first | exact trivial | exact Nat.le_of_ble_eq_true rfl | refine And.intro ?_ ?_), (by repeat' first | exact trivial | exact Nat.le_of_ble_eq_true rfl | refine And.intro ?_ ?_)⟩) | refine And.intro ?_ ?_ | with_reducible rfl | exact Nat.le_of_ble_eq_true rfl | refine AV.int_congr ?_ | refine AV.str_congr ?_ | refine AV.list_congr ?_ | (apply rfl)
    rw [wrap64 (by omega) (by omega)]; rfl
  · rw [valF_miss h1 (fun _ => by rw [← hi.2, List.drop_eq_nil_of_le (by omega)]; rfl)]
theorem sValueOf.ret (b : List VPair) (t : Str) (h : tPairs.size b ≤ 1048576) (ht : t.length ≤ 1048576) : sValueOf.Ret [.list none (pairs b), .str t] (.tup [.str (valF b t).1, .val (.bool (valF b t).2)]) [] := sValueOf.big b t (by omega) ht
theorem pValueOf.ret (b : List VPair) (t : Str) (h : tPairs.size b ≤ 1048576) (ht : t.length ≤ 1048576) : pValueOf.Ret [.list none (pairs b), .str t] (.tup [.str (valF b t).1, .val (.bool (valF b t).2)]) [] := pValueOf.big b t (by omega) ht
end Go.Proofs.Ytkbblglbbfdnpaa
namespace Go.Proofs.Ytkbblglbbfdnpaa
open Abs
def pvarsAmong.code : ACode := (.seq (.region false [s 2 (.mv (.const (.slice none 0 0)))]) (.seq (.region false [s 6 (.bslice 9 1 true []), s 3 (.mv (t 6))]) (.seq (.seq (.region false [s 7 (.mv (t 0)), s 8 (.len false (t 7)), s 9 (.mv (.const (.int .i64 0)))]) (.block 0 (.loop (.seq (.region false [s 10 (.bin .lss (t 9) (t 8))]) (.seq (.cond (t 10) .skip (.exit 0)) (.seq (.block 1 (.seq (.region false [s 11 (.iadr 1 (t 7) (t 9)), s 12 (.load false 1 (t 11)), s 5 (.mv (t 12))]) (.seq (.region false [s 13 (.mv (t 5)), s 14 (.call 61 [(t 13)])]) (.cond (t 14) (.region false [s 15 (.mv (t 3)), s 16 (.mv (t 5)), s 17 (.bslice 9 1 false [(t 16)]), s 18 (.append 9 1 16 (t 15) (t 17)), s 3 (.mv (t 18))]) .skip)))) (.region false [s 19 (.bin .add (t 9) (.const (.int .i64 1))), s 9 (.mv (t 19))]))))))) (.seq (.region false [s 20 (.mv (t 3)), s 21 (.call 99 [(t 20)]), s 2 (.mv (t 21))]) .ret))))
def pvarsAmong.keep : List Nat := [0, 2, 3, 5, 7, 8, 9, 10]
def pvarsAmong.res : List RRes := [.tmp 2]
theorem pvarsAmong.of {mo : Bool} {args : List AV} {r : AV} {frs : Fr} (hn : Nat.ble args.length Try.f63.ntmps = true) (h : aCode (Kn mo Try.prog) pvarsAmong.keep 0 pvarsAmong.code (doneK pvarsAmong.res r frs) ⟨argEnv 0 args, [], []⟩) : Abs.Ret mo Try.prog 63 args r frs :=
  Abs.Ret.of_ir Try.func63 rfl (by kernel_rfl) (Nat.le_of_ble_eq_true hn) (by kernel_rfl) (by kernel_rfl) h
abbrev pvarsAmong.Ret (args : List AV) (r : AV) (frs : Fr) : Prop := Abs.Ret true Try.prog 63 args r frs
end Go.Proofs.Ytkbblglbbfdnpaa
namespace Go.Proofs.Ytkbblglbbfdnpaa
open Abs
def accK (n : Nat) : List Str → AV
  | [] => .val (.slice none 0 0)
  | x :: l => .list (some n) (strs (x :: l))
def frK : List Str → Fr
  | [] => []
  | x :: l => [(9, 1, (x :: l).length)]
def factK (n : Nat) (f : Fct) : AV := .agg [.str f.1, accK n f.2]
theorem acc_step (y a : Str) (m : List Str) : AV.list (some 0) (strs (y :: m) ++ [[AV.str a]]) = accK 0 (y :: (m ++ [a])) := by
  show _ = AV.list (some 0) (strs ((y :: m) ++ [a]))
  rw [strs_append]; rfl
theorem factK_sh (n : Nat) (f : Fct) : shiftK n (factK 0 f) = factK n f := by
  obtain ⟨r, l⟩ := f
  cases n with
  | zero => rfl
  | succ n =>
    cases l with
    | nil => rfl
    | cons x l =>
      show AV.agg [.str r, .list (some (0 + (n + 1))) (mapTLL _ (strs (x :: l)))] = _
      rw [strs, mapTLL_old, Nat.zero_add]; rfl
theorem factK_nr (f : Fct) : noRef (factK 0 f) = true := by
  obtain ⟨r, l⟩ := f
  cases l <;> rfl
set_option maxHeartbeats 1000000 in
theorem dFact.drw : DrwK false Try.prog 80 [] (fun f : Fct => f.1 ∈ rels ∧ f.2.length ≤ 2 ∧ ∀ s ∈ f.2, s ∈ atoms) factK (fun f => frK f.2) := by
  refine DrwK.of factK_sh factK_nr fun l i h hi => dFact.ofL rfl rfl ?_
  repeat' first
    | contradiction | exact trivial
    | (conv => whnf
       first | refine Need.mk (fun h => h) ?_ | refine Need.mk rfl ?_ | refine Need.mk ⟨rfl, Nat.le_of_ble_eq_true rfl⟩ ?_ | refine Need.mk (Nat.le_of_ble_eq_true rfl) ?_ | refine Need.fin ?_ | refine Need.mk ?_ ?_ | refine Ix.strsF rfl ?_ | refine Ix.strs rfl ?_ ?_ | refine Cut.strs rfl ?_ ?_ | refine Ix.mapF (fun _ => rfl) ?_ | refine Ix.map (fun _ => rfl) ?_ ?_ | refine Cut.map (fun _ => rfl) ?_ ?_ | refine Fork.yes (by assumption) ?_ | refine Fork.no (by assumption) ?_ | refine Fork.decYes (by omega) ?_ | refine Fork.decNo (by omega) ?_ | refine Fork.dec (fun _ => ?_) (fun _ => ?_) | refine Fork.bne (fun _ => ?_) (fun _ => ?_) | refine Fork.beq (fun _ => ?_) (fun _ => ?_) | refine Fork.seq (fun _ => ?_) (fun _ => ?_) | refine Fork.sne (fun _ => ?_) (fun _ => ?_) | refine Fork.neg (fun _ => ?_) (fun _ => ?_) | refine Fork.mk (fun _ => ?_) (fun _ => ?_) | refine GFork.fork (.val (.bool false)) (fun hgf => ?_) (fun hgf => ?_) | refine HAlt.mk ?_ ?_ | apply HJoin.mk3 | exact HEnd.mk rfl rfl rfl | refine HEnd.mk ?_ ?_ ?_ | refine Round.mk ?_ | refine NilQ.mk (fun b hb => ?_) | refine forceK_of ?_ | refine forceBx_of ?_ | refine unG_old ?_ | refine unG_gv ?_ | refine Lit.read rfl ?_ | refine LitO.own rfl ?_ | refine FinVal.keep ?_ | refine FinAgg.keep ?_ | refine Final.mk rfl rfl | refine Final.mk ?_ rfl | refine Final.mk ?_ ?_ | refine FinalT.mk ?_ ?_ | refine FinalI.mk ?_ | refine FinalC.cur ?_ | refine ACall.drw (dRel.drw) rfl (by assumption) (by repeat' first | exact SeesL.nil | refine SeesL.cons ?_ ?_ | exact Or.inl ⟨rfl, rfl⟩ | exact Or.inr (Sees0.str _) | exact Or.inr (Sees0.val _) | exact Or.inr (Sees0.olds _ _) | exact Or.inr (Sees0.old _) | exact Or.inr (Sees0.oldagg _) | exact Or.inr (Sees0.list rfl) | exact Or.inr Sees0.nil) rfl (fun a i' h' hi' hq => ?_))
    | refine AV.bool_congr ?_ | refine AV.int_congr ?_ | refine AV.str_congr ?_ | refine AV.list_congr ?_ | with_reducible rfl | refine fr1 ?_ | refine fr2 ?_ ?_
  obtain ⟨rl, nn⟩ := a
  obtain ⟨q1, q2, q3⟩ := hq
  simp only at q1 q2 q3
  refine ALoop.mk (Nat × Int × Int × List Str) (fun s => ⟨[(0, .bptr 0 0), (2, .bptr 1 0), (5, .bptr 2 0), (4, .val (.int .i64 nn)), (6, .val (.int .i64 s.1))], [curB l s.2.1 s.2.2.1, .cells .var [.str [], .val (.slice none 0 0)], .cells .var [.str rl, accK 0 s.2.2.2]], frK s.2.2.2⟩)
    (fun s => (s.1 : Int) ≤ nn ∧ CurOk l s.2.1 ∧ s.2.2.2.length = s.1 ∧ ∀ x ∈ s.2.2.2, x ∈ atoms) (fun s => nn.toNat - s.1) ⟨(0, i', h', []), ⟨q2, hi', rfl, by simp⟩, ?_⟩ (fun s hs => ?_)
  · repeat' first
      | exact trivial | refine Weak.mk ?_ ?_ ?_ ?_ (Or.inl (Nat.le_of_ble_eq_true rfl)) | refine Weak.mk ?_ ?_ ?_ ?_ (Or.inr ⟨(by repeat' first | exact trivial | exact Nat.le_of_ble_eq_true rfl | refine And.intro ?_ ?_), (by repeat' first | exact trivial | exact Nat.le_of_ble_eq_true rfl | refine And.intro ?_ ?_)⟩) | refine Weak.mk ?_ ?_ ?_ ?_ ?_ | refine And.intro ?_ ?_ | with_reducible rfl | exact Nat.le_of_ble_eq_true rfl | refine fr1 ?_ | refine fr2 ?_ ?_ | refine AV.int_congr ?_ | refine AV.bool_congr ?_ | refine AV.str_congr ?_ | refine AV.list_congr ?_ | refine AV.bsl_congr ?_ ?_ | (apply rfl)
  obtain ⟨n, ci, ch, args⟩ := s
  obtain ⟨s1, s2, s3, s4⟩ := hs
  simp only at s1 s2 s3 s4
  cases args with
  | nil =>
    repeat' first
      | contradiction | exact trivial
      | (conv => whnf
         first | refine Need.mk (fun h => h) ?_ | refine Need.mk rfl ?_ | refine Need.mk ⟨rfl, Nat.le_of_ble_eq_true rfl⟩ ?_ | refine Need.mk (Nat.le_of_ble_eq_true rfl) ?_ | refine Need.fin ?_ | refine Need.mk ?_ ?_ | refine Ix.strsF rfl ?_ | refine Ix.strs rfl ?_ ?_ | refine Cut.strs rfl ?_ ?_ | refine Ix.mapF (fun _ => rfl) ?_ | refine Ix.map (fun _ => rfl) ?_ ?_ | refine Cut.map (fun _ => rfl) ?_ ?_ | refine Fork.yes (by assumption) ?_ | refine Fork.no (by assumption) ?_ | refine Fork.decYes (by omega) ?_ | refine Fork.decNo (by omega) ?_ | refine Fork.dec (fun _ => ?_) (fun _ => ?_) | refine Fork.bne (fun _ => ?_) (fun _ => ?_) | refine Fork.beq (fun _ => ?_) (fun _ => ?_) | refine Fork.seq (fun _ => ?_) (fun _ => ?_) | refine Fork.sne (fun _ => ?_) (fun _ => ?_) | refine Fork.neg (fun _ => ?_) (fun _ => ?_) | refine Fork.mk (fun _ => ?_) (fun _ => ?_) | refine GFork.fork (.val (.bool false)) (fun hgf => ?_) (fun hgf => ?_) | refine HAlt.mk ?_ ?_ | refine HJoin.split ?_ | exact HEnd.mk rfl rfl rfl | refine HEnd.mk ?_ ?_ ?_ | refine Round.mk ?_ | refine NilQ.mk (fun b hb => ?_) | refine forceK_of ?_ | refine forceBx_of ?_ | refine unG_old ?_ | refine unG_gv ?_ | refine Lit.read rfl ?_ | refine LitO.own rfl ?_ | refine FinVal.keep ?_ | refine FinAgg.keep ?_ | refine Final.mk rfl rfl | refine Final.mk ?_ rfl | refine Final.mk ?_ ?_ | refine FinalT.mk ?_ ?_ | refine FinalI.mk ?_ | refine FinalC.cur ?_ | refine ACall.drw (dAtom.drw) rfl (by assumption) (by repeat' first | exact SeesL.nil | refine SeesL.cons ?_ ?_ | exact Or.inl ⟨rfl, rfl⟩ | exact Or.inr (Sees0.str _) | exact Or.inr (Sees0.val _) | exact Or.inr (Sees0.olds _ _) | exact Or.inr (Sees0.old _) | exact Or.inr (Sees0.oldagg _) | exact Or.inr (Sees0.list rfl) | exact Or.inr Sees0.nil) rfl (fun a i' h' hi' hq => ?_))
      | refine AV.bool_congr ?_ | refine AV.int_congr ?_ | refine AV.str_congr ?_ | refine AV.list_congr ?_ | with_reducible rfl | refine fr1 ?_ | refine fr2 ?_ ?_
    all_goals try (exact DrwEndK.at (rl, []) (by assumption) ⟨q1, by simp, by simp⟩ rfl rfl)
    all_goals try (intro c hc; rw [List.mem_singleton.1 hc]; rfl)
    all_goals try (exact ⟨Nat.le_of_ble_eq_true rfl, Nat.le_of_ble_eq_true rfl⟩)
    all_goals
      have hn : n = 0 := s3.symm
      subst hn
      refine ⟨(1, i', h', [a]), ⟨by simp only; rename_i hlt; simp only at hlt; omega, hi', rfl, by simpa using hq⟩, ?_, by simp only; rename_i hlt; simp only at hlt; omega⟩
      repeat' first
        | exact trivial | refine Weak.mk ?_ ?_ ?_ ?_ (Or.inl (Nat.le_of_ble_eq_true rfl)) | refine Weak.mk ?_ ?_ ?_ ?_ (Or.inr ⟨(by repeat' first | exact trivial | exact Nat.le_of_ble_eq_true rfl | refine And.intro ?_ ?_), (by repeat' first | exact trivial | exact Nat.le_of_ble_eq_true rfl | refine And.intro ?_ ?_)⟩) | refine Weak.mk ?_ ?_ ?_ ?_ ?_ | refine And.intro ?_ ?_ | with_reducible rfl | exact Nat.le_of_ble_eq_true rfl | refine fr1 ?_ | refine fr2 ?_ ?_ | refine AV.int_congr ?_ | refine AV.bool_congr ?_ | refine AV.str_congr ?_ | refine AV.list_congr ?_ | refine AV.bsl_congr ?_ ?_ | (apply rfl)
  | cons y m =>
    rw [List.length_cons] at s3
    repeat' first
      | contradiction | exact trivial
      | (conv => whnf
         first | refine Need.mk (fun h => h) ?_ | refine Need.mk rfl ?_ | refine Need.mk ⟨rfl, Nat.le_of_ble_eq_true rfl⟩ ?_ | refine Need.mk (Nat.le_of_ble_eq_true rfl) ?_ | refine Need.fin ?_ | refine Need.mk ?_ ?_ | refine Ix.strsF rfl ?_ | refine Ix.strs rfl ?_ ?_ | refine Cut.strs rfl ?_ ?_ | refine Ix.mapF (fun _ => rfl) ?_ | refine Ix.map (fun _ => rfl) ?_ ?_ | refine Cut.map (fun _ => rfl) ?_ ?_ | refine Fork.yes (by assumption) ?_ | refine Fork.no (by assumption) ?_ | refine Fork.decYes (by omega) ?_ | refine Fork.decNo (by omega) ?_ | refine Fork.dec (fun _ => ?_) (fun _ => ?_) | refine Fork.bne (fun _ => ?_) (fun _ => ?_) | refine Fork.beq (fun _ => ?_) (fun _ => ?_) | refine Fork.seq (fun _ => ?_) (fun _ => ?_) | refine Fork.sne (fun _ => ?_) (fun _ => ?_) | refine Fork.neg (fun _ => ?_) (fun _ => ?_) | refine Fork.mk (fun _ => ?_) (fun _ => ?_) | refine GFork.fork (.val (.bool false)) (fun hgf => ?_) (fun hgf => ?_) | refine HAlt.mk ?_ ?_ | refine HJoin.split ?_ | exact HEnd.mk rfl rfl rfl | refine HEnd.mk ?_ ?_ ?_ | refine Round.mk ?_ | refine NilQ.mk (fun b hb => ?_) | refine forceK_of ?_ | refine forceBx_of ?_ | refine unG_old ?_ | refine unG_gv ?_ | refine Lit.read rfl ?_ | refine LitO.own rfl ?_ | refine FinVal.keep ?_ | refine FinAgg.keep ?_ | refine Final.mk rfl rfl | refine Final.mk ?_ rfl | refine Final.mk ?_ ?_ | refine FinalT.mk ?_ ?_ | refine FinalI.mk ?_ | refine FinalC.cur ?_ | refine ACall.drw (dAtom.drw) rfl (by assumption) (by repeat' first | exact SeesL.nil | refine SeesL.cons ?_ ?_ | exact Or.inl ⟨rfl, rfl⟩ | exact Or.inr (Sees0.str _) | exact Or.inr (Sees0.val _) | exact Or.inr (Sees0.olds _ _) | exact Or.inr (Sees0.old _) | exact Or.inr (Sees0.oldagg _) | exact Or.inr (Sees0.list rfl) | exact Or.inr Sees0.nil) rfl (fun a i' h' hi' hq => ?_))
      | refine AV.bool_congr ?_ | refine AV.int_congr ?_ | refine AV.str_congr ?_ | refine AV.list_congr ?_ | with_reducible rfl | refine fr1 ?_ | refine fr2 ?_ ?_
    all_goals try (exact DrwEndK.at (rl, y :: m) (by assumption) ⟨q1, by simp only [List.length_cons]; omega, s4⟩ rfl rfl)
    all_goals try (intro c hc; rw [List.mem_singleton.1 hc]; rfl)
    all_goals try exact (length_strs _).symm
    all_goals try (rw [length_strs]; exact ⟨by simp only [List.length_cons, List.length_nil]; omega, by simp only [List.length_cons, List.length_nil]; omega⟩)
    all_goals
      refine ⟨(n + 1, i', h', y :: (m ++ [a])), ⟨by simp only; rename_i hlt; simp only at hlt; omega, hi', by simp only [List.length_cons, List.length_append, List.length_nil]; omega, ?_⟩, ?_, by simp only; rename_i hlt; simp only at hlt; omega⟩
      · intro x hx
        rcases List.mem_cons.1 hx with rfl | hx
        · exact s4 _ (by simp)
        · rcases List.mem_append.1 hx with hx | hx
          · exact s4 _ (by simp [hx])
          · rw [List.mem_singleton.1 hx]; exact hq
      repeat' first
        | exact trivial | refine Weak.mk ?_ ?_ ?_ ?_ (Or.inl (Nat.le_of_ble_eq_true rfl)) | refine Weak.mk ?_ ?_ ?_ ?_ (Or.inr ⟨(by repeat' first | exact trivial | exact Nat.le_of_ble_eq_true rfl | refine And.intro ?_ ?_), (by repeat' first | exact trivial | exact Nat.le_of_ble_eq_true rfl | refine And.intro ?_ ?_)⟩) | refine Weak.mk ?_ ?_ ?_ ?_ ?_ | refine And.intro ?_ ?_ | with_reducible rfl | exact Nat.le_of_ble_eq_true rfl | refine fr1 ?_ | refine fr2 ?_ ?_ | refine AV.int_congr ?_ | refine AV.bool_congr ?_ | refine AV.str_congr ?_ | refine AV.list_congr ?_ | refine AV.bsl_congr ?_ ?_ | (apply rfl)
      all_goals first
        | (rw [length_strs]; simp; done)
        | (show IntKind.i64.wrap ((n : Int) + 1) = _; rw [wrap64 (by omega) (by omega)]; rfl)
        | exact congrArg (fun z => [curB l i' h', ABox.cells .var [.str [], .val (.slice none 0 0)], ABox.cells .var [.str rl, z]]) (acc_step y a m)
set_option maxHeartbeats 1000000 in
theorem dPat.drw : DrwK false Try.prog 85 [] (fun f : Fct => f.1 ∈ rels ∧ f.2.length ≤ 2 ∧ ∀ s ∈ f.2, s ∈ atoms ∨ s ∈ terms) factK (fun f => frK f.2) := by
  refine DrwK.of factK_sh factK_nr fun l i h hi => dPat.ofL rfl rfl ?_
  repeat' first
    | contradiction | exact trivial
    | (conv => whnf
       first | refine Need.mk (fun h => h) ?_ | refine Need.mk rfl ?_ | refine Need.mk ⟨rfl, Nat.le_of_ble_eq_true rfl⟩ ?_ | refine Need.mk (Nat.le_of_ble_eq_true rfl) ?_ | refine Need.fin ?_ | refine Need.mk ?_ ?_ | refine Ix.strsF rfl ?_ | refine Ix.strs rfl ?_ ?_ | refine Cut.strs rfl ?_ ?_ | refine Ix.mapF (fun _ => rfl) ?_ | refine Ix.map (fun _ => rfl) ?_ ?_ | refine Cut.map (fun _ => rfl) ?_ ?_ | refine Fork.yes (by assumption) ?_ | refine Fork.no (by assumption) ?_ | refine Fork.decYes (by omega) ?_ | refine Fork.decNo (by omega) ?_ | refine Fork.dec (fun _ => ?_) (fun _ => ?_) | refine Fork.bne (fun _ => ?_) (fun _ => ?_) | refine Fork.beq (fun _ => ?_) (fun _ => ?_) | refine Fork.seq (fun _ => ?_) (fun _ => ?_) | refine Fork.sne (fun _ => ?_) (fun _ => ?_) | refine Fork.neg (fun _ => ?_) (fun _ => ?_) | refine Fork.mk (fun _ => ?_) (fun _ => ?_) | refine GFork.fork (.val (.bool false)) (fun hgf => ?_) (fun hgf => ?_) | refine HAlt.mk ?_ ?_ | apply HJoin.mk3 | exact HEnd.mk rfl rfl rfl | refine HEnd.mk ?_ ?_ ?_ | refine Round.mk ?_ | refine NilQ.mk (fun b hb => ?_) | refine forceK_of ?_ | refine forceBx_of ?_ | refine unG_old ?_ | refine unG_gv ?_ | refine Lit.read rfl ?_ | refine LitO.own rfl ?_ | refine FinVal.keep ?_ | refine FinAgg.keep ?_ | refine Final.mk rfl rfl | refine Final.mk ?_ rfl | refine Final.mk ?_ ?_ | refine FinalT.mk ?_ ?_ | refine FinalI.mk ?_ | refine FinalC.cur ?_ | refine ACall.drw (dRel.drw) rfl (by assumption) (by repeat' first | exact SeesL.nil | refine SeesL.cons ?_ ?_ | exact Or.inl ⟨rfl, rfl⟩ | exact Or.inr (Sees0.str _) | exact Or.inr (Sees0.val _) | exact Or.inr (Sees0.olds _ _) | exact Or.inr (Sees0.old _) | exact Or.inr (Sees0.oldagg _) | exact Or.inr (Sees0.list rfl) | exact Or.inr Sees0.nil) rfl (fun a i' h' hi' hq => ?_))
    | refine AV.bool_congr ?_ | refine AV.int_congr ?_ | refine AV.str_congr ?_ | refine AV.list_congr ?_ | with_reducible rfl | refine fr1 ?_ | refine fr2 ?_ ?_
  obtain ⟨rl, nn⟩ := a
  obtain ⟨q1, q2, q3⟩ := hq
  simp only at q1 q2 q3
  refine ALoop.mk (Nat × Int × Int × List Str) (fun s => ⟨[(0, .bptr 0 0), (2, .bptr 1 0), (5, .bptr 2 0), (4, .val (.int .i64 nn)), (6, .val (.int .i64 s.1))], [curB l s.2.1 s.2.2.1, .cells .var [.str [], .val (.slice none 0 0)], .cells .var [.str rl, accK 0 s.2.2.2]], frK s.2.2.2⟩)
    (fun s => (s.1 : Int) ≤ nn ∧ CurOk l s.2.1 ∧ s.2.2.2.length = s.1 ∧ ∀ x ∈ s.2.2.2, x ∈ atoms ∨ x ∈ terms) (fun s => nn.toNat - s.1) ⟨(0, i', h', []), ⟨q2, hi', rfl, by simp⟩, ?_⟩ (fun s hs => ?_)
  · repeat' first
      | exact trivial | refine Weak.mk ?_ ?_ ?_ ?_ (Or.inl (Nat.le_of_ble_eq_true rfl)) | refine Weak.mk ?_ ?_ ?_ ?_ (Or.inr ⟨(by repeat' first | exact trivial | exact Nat.le_of_ble_eq_true rfl | refine And.intro ?_ ?_), (by repeat' first | exact trivial | exact Nat.le_of_ble_eq_true rfl | refine And.intro ?_ ?_)⟩) | refine Weak.mk ?_ ?_ ?_ ?_ ?_ | refine And.intro ?_ ?_ | with_reducible rfl | exact Nat.le_of_ble_eq_true rfl | refine fr1 ?_ | refine fr2 ?_ ?_ | refine AV.int_congr ?_ | refine AV.bool_congr ?_ | refine AV.str_congr ?_ | refine AV.list_congr ?_ | refine AV.bsl_congr ?_ ?_ | (apply rfl)
  obtain ⟨n, ci, ch, args⟩ := s
  obtain ⟨s1, s2, s3, s4⟩ := hs
  simp only at s1 s2 s3 s4
  cases args with
  | nil =>
    repeat' first
      | contradiction | exact trivial
      | (conv => whnf
         first | refine Need.mk (fun h => h) ?_ | refine Need.mk rfl ?_ | refine Need.mk ⟨rfl, Nat.le_of_ble_eq_true rfl⟩ ?_ | refine Need.mk (Nat.le_of_ble_eq_true rfl) ?_ | refine Need.fin ?_ | refine Need.mk ?_ ?_ | refine Ix.strsF rfl ?_ | refine Ix.strs rfl ?_ ?_ | refine Cut.strs rfl ?_ ?_ | refine Ix.mapF (fun _ => rfl) ?_ | refine Ix.map (fun _ => rfl) ?_ ?_ | refine Cut.map (fun _ => rfl) ?_ ?_ | refine Fork.yes (by assumption) ?_ | refine Fork.no (by assumption) ?_ | refine Fork.decYes (by omega) ?_ | refine Fork.decNo (by omega) ?_ | refine Fork.dec (fun _ => ?_) (fun _ => ?_) | refine Fork.bne (fun _ => ?_) (fun _ => ?_) | refine Fork.beq (fun _ => ?_) (fun _ => ?_) | refine Fork.seq (fun _ => ?_) (fun _ => ?_) | refine Fork.sne (fun _ => ?_) (fun _ => ?_) | refine Fork.neg (fun _ => ?_) (fun _ => ?_) | refine Fork.mk (fun _ => ?_) (fun _ => ?_) | refine GFork.fork (.val (.bool false)) (fun hgf => ?_) (fun hgf => ?_) | refine HAlt.mk ?_ ?_ | refine HJoin.split ?_ | exact HEnd.mk rfl rfl rfl | refine HEnd.mk ?_ ?_ ?_ | refine Round.mk ?_ | refine NilQ.mk (fun b hb => ?_) | refine forceK_of ?_ | refine forceBx_of ?_ | refine unG_old ?_ | refine unG_gv ?_ | refine Lit.read rfl ?_ | refine LitO.own rfl ?_ | refine FinVal.keep ?_ | refine FinAgg.keep ?_ | refine Final.mk rfl rfl | refine Final.mk ?_ rfl | refine Final.mk ?_ ?_ | refine FinalT.mk ?_ ?_ | refine FinalI.mk ?_ | refine FinalC.cur ?_ | refine ACall.drw (dTerm.drw) rfl (by assumption) (by repeat' first | exact SeesL.nil | refine SeesL.cons ?_ ?_ | exact Or.inl ⟨rfl, rfl⟩ | exact Or.inr (Sees0.str _) | exact Or.inr (Sees0.val _) | exact Or.inr (Sees0.olds _ _) | exact Or.inr (Sees0.old _) | exact Or.inr (Sees0.oldagg _) | exact Or.inr (Sees0.list rfl) | exact Or.inr Sees0.nil) rfl (fun a i' h' hi' hq => ?_))
      | refine AV.bool_congr ?_ | refine AV.int_congr ?_ | refine AV.str_congr ?_ | refine AV.list_congr ?_ | with_reducible rfl | refine fr1 ?_ | refine fr2 ?_ ?_
    all_goals try (exact DrwEndK.at (rl, []) (by assumption) ⟨q1, by simp, by simp⟩ rfl rfl)
    all_goals try (intro c hc; rw [List.mem_singleton.1 hc]; rfl)
    all_goals try (exact ⟨Nat.le_of_ble_eq_true rfl, Nat.le_of_ble_eq_true rfl⟩)
    all_goals
      have hn : n = 0 := s3.symm
      subst hn
      refine ⟨(1, i', h', [a]), ⟨by simp only; rename_i hlt; simp only at hlt; omega, hi', rfl, by simpa using hq⟩, ?_, by simp only; rename_i hlt; simp only at hlt; omega⟩
      repeat' first
        | exact trivial | refine Weak.mk ?_ ?_ ?_ ?_ (Or.inl (Nat.le_of_ble_eq_true rfl)) | refine Weak.mk ?_ ?_ ?_ ?_ (Or.inr ⟨(by repeat' first | exact trivial | exact Nat.le_of_ble_eq_true rfl | refine And.intro ?_ ?_), (by repeat' first | exact trivial | exact Nat.le_of_ble_eq_true rfl | refine And.intro ?_ ?_)⟩) | refine Weak.mk ?_ ?_ ?_ ?_ ?_ | refine And.intro ?_ ?_ | with_reducible rfl | exact Nat.le_of_ble_eq_true rfl | refine fr1 ?_ | refine fr2 ?_ ?_ | refine AV.int_congr ?_ | refine AV.bool_congr ?_ | refine AV.str_congr ?_ | refine AV.list_congr ?_ | refine AV.bsl_congr ?_ ?_ | (apply rfl)
  | cons y m =>
    rw [List.length_cons] at s3
    repeat' first
      | contradiction | exact trivial
      | (conv => whnf
         first | refine Need.mk (fun h => h) ?_ | refine Need.mk rfl ?_ | refine Need.mk ⟨rfl, Nat.le_of_ble_eq_true rfl⟩ ?_ | refine Need.mk (Nat.le_of_ble_eq_true rfl) ?_ | refine Need.fin ?_ | refine Need.mk ?_ ?_ | refine Ix.strsF rfl ?_ | refine Ix.strs rfl ?_ ?_ | refine Cut.strs rfl ?_ ?_ | refine Ix.mapF (fun _ => rfl) ?_ | refine Ix.map (fun _ => rfl) ?_ ?_ | refine Cut.map (fun _ => rfl) ?_ ?_ | refine Fork.yes (by assumption) ?_ | refine Fork.no (by assumption) ?_ | refine Fork.decYes (by omega) ?_ | refine Fork.decNo (by omega) ?_ | refine Fork.dec (fun _ => ?_) (fun _ => ?_) | refine Fork.bne (fun _ => ?_) (fun _ => ?_) | refine Fork.beq (fun _ => ?_) (fun _ => ?_) | refine Fork.seq (fun _ => ?_) (fun _ => ?_) | refine Fork.sne (fun _ => ?_) (fun _ => ?_) | refine Fork.neg (fun _ => ?_) (fun _ => ?_) | refine Fork.mk (fun _ => ?_) (fun _ => ?_) | refine GFork.fork (.val (.bool false)) (fun hgf => ?_) (fun hgf => ?_) | refine HAlt.mk ?_ ?_ | refine HJoin.split ?_ | exact HEnd.mk rfl rfl rfl | refine HEnd.mk ?_ ?_ ?_ | refine Round.mk ?_ | refine NilQ.mk (fun b hb => ?_) | refine forceK_of ?_ | refine forceBx_of ?_ | refine unG_old ?_ | refine unG_gv ?_ | refine Lit.read rfl ?_ | refine LitO.own rfl ?_ | refine FinVal.keep ?_ | refine FinAgg.keep ?_ | refine Final.mk rfl rfl | refine Final.mk ?_ rfl | refine Final.mk ?_ ?_ | refine FinalT.mk ?_ ?_ | refine FinalI.mk ?_ | refine FinalC.cur ?_ | refine ACall.drw (dTerm.drw) rfl (by assumption) (by repeat' first | exact SeesL.nil | refine SeesL.cons ?_ ?_ | exact Or.inl ⟨rfl, rfl⟩ | exact Or.inr (Sees0.str _) | exact Or.inr (Sees0.val _) | exact Or.inr (Sees0.olds _ _) | exact Or.inr (Sees0.old _) | exact Or.inr (Sees0.oldagg _) | exact Or.inr (Sees0.list rfl) | exact Or.inr Sees0.nil) rfl (fun a i' h' hi' hq => ?_))
      | refine AV.bool_congr ?_ | refine AV.int_congr ?_ | refine AV.str_congr ?_ | refine AV.list_congr ?_ | with_reducible rfl | refine fr1 ?_ | refine fr2 ?_ ?_
    all_goals try (exact DrwEndK.at (rl, y :: m) (by assumption) ⟨q1, by simp only [List.length_cons]; omega, s4⟩ rfl rfl)
    all_goals try (intro c hc; rw [List.mem_singleton.1 hc]; rfl)
    all_goals try exact (length_strs _).symm
    all_goals try (rw [length_strs]; exact ⟨by simp only [List.length_cons, List.length_nil]; omega, by simp only [List.length_cons, List.length_nil]; omega⟩)
    all_goals
      refine ⟨(n + 1, i', h', y :: (m ++ [a])), ⟨by simp only; rename_i hlt; simp only at hlt; omega, hi', by simp only [List.length_cons, List.length_append, List.length_nil]; omega, ?_⟩, ?_, by simp only; rename_i hlt; simp only at hlt; omega⟩
      · intro x hx
        rcases List.mem_cons.1 hx with rfl | hx
        · exact s4 _ (by simp)
        · rcases List.mem_append.1 hx with hx | hx
          · exact s4 _ (by simp [hx])
          · rw [List.mem_singleton.1 hx]; exact hq
      repeat' first
        | exact trivial | refine Weak.mk ?_ ?_ ?_ ?_ (Or.inl (Nat.le_of_ble_eq_true rfl)) | refine Weak.mk ?_ ?_ ?_ ?_ (Or.inr ⟨(by repeat' first | exact trivial | exact Nat.le_of_ble_eq_true rfl | refine And.intro ?_ ?_), (by repeat' first | exact trivial | exact Nat.le_of_ble_eq_true rfl | refine And.intro ?_ ?_)⟩) | refine Weak.mk ?_ ?_ ?_ ?_ ?_ | refine And.intro ?_ ?_ | with_reducible rfl | exact Nat.le_of_ble_eq_true rfl | refine fr1 ?_ | refine fr2 ?_ ?_ | refine AV.int_congr ?_ | refine AV.bool_congr ?_ | refine AV.str_congr ?_ | refine AV.list_congr ?_ | refine AV.bsl_congr ?_ ?_ | (apply rfl)
      all_goals first
        | (rw [length_strs]; simp; done)
        | (show IntKind.i64.wrap ((n : Int) + 1) = _; rw [wrap64 (by omega) (by omega)]; rfl)
        | exact congrArg (fun z => [curB l i' h', ABox.cells .var [.str [], .val (.slice none 0 0)], ABox.cells .var [.str rl, z]]) (acc_step y a m)
theorem anyS (y a : Str) (m : List Str) : strs (y :: m) ++ [[AV.str a]] = strs (y :: m ++ [a]) := (strs_append (y :: m) [a]).symm
def four : List Str := [[97], [98], [99], [97]]
def fourP : List Str := [[63, 120], [63, 120], [63, 121], [63, 120]]
theorem app4 {A : List Str} {a : Str} (h : A.length ≤ 2) : (A ++ [a]).length ≤ 4 := by rw [List.length_append, List.length_singleton]; omega
theorem four_len : ∀ s ∈ four, s.length ≤ 10 := by decide
theorem fourP_len : ∀ s ∈ fourP, s.length ≤ 10 := by decide
theorem anySees (o : Option Nat) (y a : Str) (m : List Str) : Sees0 (.list o (strs (y :: m) ++ [[AV.str a]])) (.list none (strs (y :: m ++ [a]))) := by
  rw [anyS]; exact Sees0.olds _ _
set_option maxHeartbeats 2000000 in
theorem dAnyFact.drw : Drw false Try.prog 42 [] (fun f : Fct => f.2.length ≤ 4 ∧ f.1.length ≤ 10 ∧ ∀ s ∈ f.2, s.length ≤ 10) (fun f => .a (tFct.q f)) := by
  refine Drw.of fun l i h hi => dAnyFact.ofL rfl rfl ?_
  have cl : ∀ {a : Int}, 0 ≤ a ∧ (a < 5 ∨ a = 0) → 0 ≤ (0 : Int) ∧ (0 : Int) ≤ a ∧ a ≤ ((strs four).length : Int) ∧ (∀ c ∈ strs four, c.length = 1) ∧ ((strs four).take a.toNat).drop (0 : Int).toNat = strs (List.take a.toNat four) := fun {a} h => by
    refine ⟨Int.le_refl _, h.1, ?_, strs_sz _, ?_⟩
    · rw [length_strs]; show a ≤ 4; omega
    · rw [strs_eq, strs_eq, List.map_take]; rfl
  repeat' first
    | contradiction | exact trivial
    | (conv => whnf
       first | refine Need.mk (fun h => h) ?_ | refine Need.mk rfl ?_ | refine Need.mk ⟨rfl, Nat.le_of_ble_eq_true rfl⟩ ?_ | refine Need.mk (Nat.le_of_ble_eq_true rfl) ?_ | refine Need.fin ?_ | refine Need.mk ?_ ?_ | refine Ix.strsF rfl ?_ | refine Ix.strs rfl ?_ ?_ | refine Cut.strs rfl ?_ ?_ | refine Ix.mapF (fun _ => rfl) ?_ | refine Ix.map (fun _ => rfl) ?_ ?_ | refine Cut.map (fun _ => rfl) ?_ ?_ | refine Fork.yes (by assumption) ?_ | refine Fork.no (by assumption) ?_ | refine Fork.decYes (by omega) ?_ | refine Fork.decNo (by omega) ?_ | refine Fork.dec (fun _ => ?_) (fun _ => ?_) | refine Fork.bne (fun _ => ?_) (fun _ => ?_) | refine Fork.beq (fun _ => ?_) (fun _ => ?_) | refine Fork.seq (fun _ => ?_) (fun _ => ?_) | refine Fork.sne (fun _ => ?_) (fun _ => ?_) | refine Fork.neg (fun _ => ?_) (fun _ => ?_) | refine Fork.mk (fun _ => ?_) (fun _ => ?_) | refine GFork.fork (.val (.bool false)) (fun hgf => ?_) (fun hgf => ?_) | refine HAlt.mk ?_ ?_ | apply HJoin.mk3 | exact HEnd.mk rfl rfl rfl | refine HEnd.mk ?_ ?_ ?_ | refine Round.mk ?_ | refine NilQ.mk (fun b hb => ?_) | refine forceK_of ?_ | refine forceBx_of ?_ | refine unG_old ?_ | refine unG_gv ?_ | refine Lit.read rfl ?_ | refine LitO.own rfl ?_ | refine FinVal.keep ?_ | refine FinAgg.keep ?_ | refine Final.mk rfl rfl | refine Final.mk ?_ rfl | refine Final.mk ?_ ?_ | refine FinalT.mk ?_ ?_ | refine FinalI.mk ?_ | refine FinalC.cur ?_ | refine ACall.drwK (dFact.drw) rfl (by assumption) (by repeat' first | exact SeesL.nil | refine SeesL.cons ?_ ?_ | exact Or.inl ⟨rfl, rfl⟩ | exact Or.inr (Sees0.str _) | exact Or.inr (Sees0.val _) | exact Or.inr (Sees0.olds _ _) | exact Or.inr (Sees0.old _) | exact Or.inr (Sees0.oldagg _) | exact Or.inr (Sees0.list rfl) | exact Or.inr Sees0.nil) rfl (fun a i' h' hi' hq => ?_))
    | refine AV.bool_congr ?_ | refine AV.int_congr ?_ | refine AV.str_congr ?_ | refine AV.list_congr ?_ | with_reducible rfl | refine fr1 ?_ | refine fr2 ?_ ?_
  obtain ⟨rl, args⟩ := a
  obtain ⟨q1, q2, q3⟩ := hq
  simp only at q1 q2 q3
  have r10 := (rel_name _ q1).2
  have a10 : ∀ s ∈ args, s.length ≤ 10 := fun s hs => atom_len s (q3 s hs)
  have a11 : ∀ w ∈ words, ∀ s ∈ args ++ [w], s.length ≤ 10 := fun w hw s hs => by
    rcases List.mem_append.1 hs with hs | hs
    · exact a10 s hs
    · rw [List.mem_singleton.1 hs]; exact word_len w hw
  cases args with
  | nil =>
    have q2 : ([] : List Str).length ≤ 2 := q2
    repeat' first
      | contradiction | exact trivial
      | (conv => whnf
         first | refine Need.mk (fun h => h) ?_ | refine Need.mk rfl ?_ | refine Need.mk ⟨rfl, Nat.le_of_ble_eq_true rfl⟩ ?_ | refine Need.mk (Nat.le_of_ble_eq_true rfl) ?_ | refine Need.fin ?_ | refine Need.mk ?_ ?_ | refine Ix.strsF rfl ?_ | refine Ix.strs rfl ?_ ?_ | refine Cut.mk _ (fun _ => cl hq) ?_ | refine Cut.strs rfl ?_ ?_ | refine Ix.mapF (fun _ => rfl) ?_ | refine Ix.map (fun _ => rfl) ?_ ?_ | refine Cut.map (fun _ => rfl) ?_ ?_ | refine Fork.yes (by assumption) ?_ | refine Fork.no (by assumption) ?_ | refine Fork.decYes (by omega) ?_ | refine Fork.decNo (by omega) ?_ | refine Fork.dec (fun _ => ?_) (fun _ => ?_) | refine Fork.bne (fun _ => ?_) (fun _ => ?_) | refine Fork.beq (fun _ => ?_) (fun _ => ?_) | refine Fork.seq (fun _ => ?_) (fun _ => ?_) | refine Fork.sne (fun _ => ?_) (fun _ => ?_) | refine Fork.neg (fun _ => ?_) (fun _ => ?_) | refine Fork.mk (fun _ => ?_) (fun _ => ?_) | refine GFork.fork (.val (.bool false)) (fun hgf => ?_) (fun hgf => ?_) | refine HAlt.mk ?_ ?_ | refine HJoin.split ?_ | exact HEnd.mk rfl rfl rfl | refine HEnd.mk ?_ ?_ ?_ | refine Round.mk ?_ | refine NilQ.mk (fun b hb => ?_) | refine forceK_of ?_ | refine forceBx_of ?_ | refine unG_old ?_ | refine unG_gv ?_ | refine Lit.read rfl ?_ | refine LitO.own rfl ?_ | refine FinVal.keep ?_ | refine FinAgg.keep ?_ | refine Final.mk rfl rfl | refine Final.mk ?_ rfl | refine Final.mk ?_ ?_ | refine FinalT.mk ?_ ?_ | refine FinalI.mk ?_ | refine FinalC.cur ?_ | refine ACall.drw (dBelow.drw _ ?_) rfl (by assumption) (by repeat' first | exact SeesL.nil | refine SeesL.cons ?_ ?_ | exact Or.inl ⟨rfl, rfl⟩ | exact Or.inr (Sees0.str _) | exact Or.inr (Sees0.val _) | exact Or.inr (Sees0.olds _ _) | exact Or.inr (Sees0.old _) | exact Or.inr (Sees0.oldagg _) | exact Or.inr (Sees0.list rfl) | exact Or.inr Sees0.nil) rfl (fun a i' h' hi' hq => ?_) | refine ACall.drw (dWord.drw) rfl (by assumption) (by repeat' first | exact SeesL.nil | refine SeesL.cons ?_ ?_ | exact Or.inl ⟨rfl, rfl⟩ | exact Or.inr (Sees0.str _) | exact Or.inr (Sees0.val _) | exact Or.inr (Sees0.olds _ _) | exact Or.inr (Sees0.old _) | exact Or.inr (Sees0.oldagg _) | exact Or.inr (Sees0.list rfl) | exact Or.inr Sees0.nil) rfl (fun a i' h' hi' hq => ?_))
      | refine AV.bool_congr ?_ | refine AV.int_congr ?_ | refine AV.str_congr ?_ | refine AV.list_congr ?_ | with_reducible rfl | refine fr1 ?_ | refine fr2 ?_ ?_
    all_goals first
      | decide
      | (intro c hc; rw [List.mem_singleton.1 hc]; rfl)
      | exact ⟨Nat.le_of_ble_eq_true rfl, Nat.le_of_ble_eq_true rfl⟩
      | exact (length_strs _).symm
      | (rw [length_strs]; exact ⟨by simp only [List.length_cons, List.length_nil] at *; omega, by simp only [List.length_cons, List.length_nil] at *; omega⟩)
      | (refine DrwEnd.at (a, []) (by assumption) ⟨Nat.le_trans q2 (by decide), word_len _ hq, a10⟩ ?_; (repeat' first | exact SeesL.nil | refine SeesL.cons ?_ ?_ | exact Sees0.val _ | exact Sees0.str _ | exact Sees0.olds _ _ | exact Sees0.old _ | exact Sees0.oldagg _ | exact Sees0.nil | refine Sees0.agg (SeesL.cons ?_ (SeesL.cons ?_ SeesL.nil)) | refine Sees0.agg (SeesL.cons ?_ (SeesL.cons ?_ (SeesL.cons ?_ (SeesL.cons ?_ (SeesL.cons ?_ SeesL.nil))))) | refine Sees0.agg ?_ | refine Sees0.tup ?_ | exact Sees0.list rfl | exact accSees _ _); done)
      | (refine DrwEnd.at (rl, [] ++ [a]) (by assumption) ⟨app4 q2, r10, a11 _ hq⟩ ?_; (repeat' first | exact SeesL.nil | refine SeesL.cons ?_ ?_ | exact Sees0.val _ | exact Sees0.str _ | exact Sees0.olds _ _ | exact Sees0.old _ | exact Sees0.oldagg _ | exact Sees0.nil | refine Sees0.agg (SeesL.cons ?_ (SeesL.cons ?_ SeesL.nil)) | refine Sees0.agg (SeesL.cons ?_ (SeesL.cons ?_ (SeesL.cons ?_ (SeesL.cons ?_ (SeesL.cons ?_ SeesL.nil))))) | refine Sees0.agg ?_ | refine Sees0.tup ?_ | exact Sees0.list rfl | exact accSees _ _); done)
      | (refine DrwEnd.at (rl, List.take a.toNat four) (by assumption) ⟨Nat.le_trans (List.length_take_le' _ _) (by decide), r10, fun s hs => four_len s (List.mem_of_mem_take (show s ∈ List.take a.toNat four from hs))⟩ ?_; (repeat' first | exact SeesL.nil | refine SeesL.cons ?_ ?_ | exact Sees0.val _ | exact Sees0.str _ | exact Sees0.olds _ _ | exact Sees0.old _ | exact Sees0.oldagg _ | exact Sees0.nil | refine Sees0.agg (SeesL.cons ?_ (SeesL.cons ?_ SeesL.nil)) | refine Sees0.agg (SeesL.cons ?_ (SeesL.cons ?_ (SeesL.cons ?_ (SeesL.cons ?_ (SeesL.cons ?_ SeesL.nil))))) | refine Sees0.agg ?_ | refine Sees0.tup ?_ | exact Sees0.list rfl | exact accSees _ _); done)
      | (refine DrwEnd.at (rl, []) (by assumption) ⟨Nat.le_trans q2 (by decide), r10, a10⟩ ?_; (repeat' first | exact SeesL.nil | refine SeesL.cons ?_ ?_ | exact Sees0.val _ | exact Sees0.str _ | exact Sees0.olds _ _ | exact Sees0.old _ | exact Sees0.oldagg _ | exact Sees0.nil | refine Sees0.agg (SeesL.cons ?_ (SeesL.cons ?_ SeesL.nil)) | refine Sees0.agg (SeesL.cons ?_ (SeesL.cons ?_ (SeesL.cons ?_ (SeesL.cons ?_ (SeesL.cons ?_ SeesL.nil))))) | refine Sees0.agg ?_ | refine Sees0.tup ?_ | exact Sees0.list rfl | exact accSees _ _); done)
  | cons y m =>
    rw [List.length_cons] at q2
    repeat' first
      | contradiction | exact trivial
      | (conv => whnf
         first | refine Need.mk (fun h => h) ?_ | refine Need.mk rfl ?_ | refine Need.mk ⟨rfl, Nat.le_of_ble_eq_true rfl⟩ ?_ | refine Need.mk (Nat.le_of_ble_eq_true rfl) ?_ | refine Need.fin ?_ | refine Need.mk ?_ ?_ | refine Ix.strsF rfl ?_ | refine Ix.strs rfl ?_ ?_ | refine Cut.mk _ (fun _ => cl hq) ?_ | refine Cut.strs rfl ?_ ?_ | refine Ix.mapF (fun _ => rfl) ?_ | refine Ix.map (fun _ => rfl) ?_ ?_ | refine Cut.map (fun _ => rfl) ?_ ?_ | refine Fork.yes (by assumption) ?_ | refine Fork.no (by assumption) ?_ | refine Fork.decYes (by omega) ?_ | refine Fork.decNo (by omega) ?_ | refine Fork.dec (fun _ => ?_) (fun _ => ?_) | refine Fork.bne (fun _ => ?_) (fun _ => ?_) | refine Fork.beq (fun _ => ?_) (fun _ => ?_) | refine Fork.seq (fun _ => ?_) (fun _ => ?_) | refine Fork.sne (fun _ => ?_) (fun _ => ?_) | refine Fork.neg (fun _ => ?_) (fun _ => ?_) | refine Fork.mk (fun _ => ?_) (fun _ => ?_) | refine GFork.fork (.val (.bool false)) (fun hgf => ?_) (fun hgf => ?_) | refine HAlt.mk ?_ ?_ | refine HJoin.split ?_ | exact HEnd.mk rfl rfl rfl | refine HEnd.mk ?_ ?_ ?_ | refine Round.mk ?_ | refine NilQ.mk (fun b hb => ?_) | refine forceK_of ?_ | refine forceBx_of ?_ | refine unG_old ?_ | refine unG_gv ?_ | refine Lit.read rfl ?_ | refine LitO.own rfl ?_ | refine FinVal.keep ?_ | refine FinAgg.keep ?_ | refine Final.mk rfl rfl | refine Final.mk ?_ rfl | refine Final.mk ?_ ?_ | refine FinalT.mk ?_ ?_ | refine FinalI.mk ?_ | refine FinalC.cur ?_ | refine ACall.drw (dBelow.drw _ ?_) rfl (by assumption) (by repeat' first | exact SeesL.nil | refine SeesL.cons ?_ ?_ | exact Or.inl ⟨rfl, rfl⟩ | exact Or.inr (Sees0.str _) | exact Or.inr (Sees0.val _) | exact Or.inr (Sees0.olds _ _) | exact Or.inr (Sees0.old _) | exact Or.inr (Sees0.oldagg _) | exact Or.inr (Sees0.list rfl) | exact Or.inr Sees0.nil) rfl (fun a i' h' hi' hq => ?_) | refine ACall.drw (dWord.drw) rfl (by assumption) (by repeat' first | exact SeesL.nil | refine SeesL.cons ?_ ?_ | exact Or.inl ⟨rfl, rfl⟩ | exact Or.inr (Sees0.str _) | exact Or.inr (Sees0.val _) | exact Or.inr (Sees0.olds _ _) | exact Or.inr (Sees0.old _) | exact Or.inr (Sees0.oldagg _) | exact Or.inr (Sees0.list rfl) | exact Or.inr Sees0.nil) rfl (fun a i' h' hi' hq => ?_))
      | refine AV.bool_congr ?_ | refine AV.int_congr ?_ | refine AV.str_congr ?_ | refine AV.list_congr ?_ | with_reducible rfl | refine fr1 ?_ | refine fr2 ?_ ?_
    all_goals first
      | decide
      | (intro c hc; rw [List.mem_singleton.1 hc]; rfl)
      | exact ⟨Nat.le_of_ble_eq_true rfl, Nat.le_of_ble_eq_true rfl⟩
      | exact (length_strs _).symm
      | (rw [length_strs]; exact ⟨by simp only [List.length_cons, List.length_nil] at *; omega, by simp only [List.length_cons, List.length_nil] at *; omega⟩)
      | (refine DrwEnd.at (a, (y :: m)) (by assumption) ⟨Nat.le_trans q2 (by decide), word_len _ hq, a10⟩ ?_; (repeat' first | exact SeesL.nil | refine SeesL.cons ?_ ?_ | exact Sees0.val _ | exact Sees0.str _ | exact Sees0.olds _ _ | exact Sees0.old _ | exact Sees0.oldagg _ | exact Sees0.nil | refine Sees0.agg (SeesL.cons ?_ (SeesL.cons ?_ SeesL.nil)) | refine Sees0.agg (SeesL.cons ?_ (SeesL.cons ?_ (SeesL.cons ?_ (SeesL.cons ?_ (SeesL.cons ?_ SeesL.nil))))) | refine Sees0.agg ?_ | refine Sees0.tup ?_ | exact Sees0.list rfl | exact accSees _ _); done)
      | (refine DrwEnd.at (rl, (y :: m) ++ [a]) (by assumption) ⟨app4 q2, r10, a11 _ hq⟩ ?_; exact Sees0.agg (SeesL.cons (Sees0.str _) (SeesL.cons (anySees _ _ _ _) SeesL.nil)))
      | (refine DrwEnd.at (rl, List.take a.toNat four) (by assumption) ⟨Nat.le_trans (List.length_take_le' _ _) (by decide), r10, fun s hs => four_len s (List.mem_of_mem_take (show s ∈ List.take a.toNat four from hs))⟩ ?_; (repeat' first | exact SeesL.nil | refine SeesL.cons ?_ ?_ | exact Sees0.val _ | exact Sees0.str _ | exact Sees0.olds _ _ | exact Sees0.old _ | exact Sees0.oldagg _ | exact Sees0.nil | refine Sees0.agg (SeesL.cons ?_ (SeesL.cons ?_ SeesL.nil)) | refine Sees0.agg (SeesL.cons ?_ (SeesL.cons ?_ (SeesL.cons ?_ (SeesL.cons ?_ (SeesL.cons ?_ SeesL.nil))))) | refine Sees0.agg ?_ | refine Sees0.tup ?_ | exact Sees0.list rfl | exact accSees _ _); done)
      | (refine DrwEnd.at (rl, (y :: m)) (by assumption) ⟨Nat.le_trans q2 (by decide), r10, a10⟩ ?_; (repeat' first | exact SeesL.nil | refine SeesL.cons ?_ ?_ | exact Sees0.val _ | exact Sees0.str _ | exact Sees0.olds _ _ | exact Sees0.old _ | exact Sees0.oldagg _ | exact Sees0.nil | refine Sees0.agg (SeesL.cons ?_ (SeesL.cons ?_ SeesL.nil)) | refine Sees0.agg (SeesL.cons ?_ (SeesL.cons ?_ (SeesL.cons ?_ (SeesL.cons ?_ (SeesL.cons ?_ SeesL.nil))))) | refine Sees0.agg ?_ | refine Sees0.tup ?_ | exact Sees0.list rfl | exact accSees _ _); done)
set_option maxHeartbeats 2000000 in
theorem dAnyPat.drw : Drw false Try.prog 46 [] (fun f : Fct => f.2.length ≤ 4 ∧ f.1.length ≤ 10 ∧ ∀ s ∈ f.2, s.length ≤ 10) (fun f => .a (tFct.q f)) := by
  refine Drw.of fun l i h hi => dAnyPat.ofL rfl rfl ?_
  have cl : ∀ {a : Int}, 0 ≤ a ∧ (a < 5 ∨ a = 0) → 0 ≤ (0 : Int) ∧ (0 : Int) ≤ a ∧ a ≤ ((strs fourP).length : Int) ∧ (∀ c ∈ strs fourP, c.length = 1) ∧ ((strs fourP).take a.toNat).drop (0 : Int).toNat = strs (List.take a.toNat fourP) := fun {a} h => by
    refine ⟨Int.le_refl _, h.1, ?_, strs_sz _, ?_⟩
    · rw [length_strs]; show a ≤ 4; omega
    · rw [strs_eq, strs_eq, List.map_take]; rfl
  repeat' first
    | contradiction | exact trivial
    | (conv => whnf
       first | refine Need.mk (fun h => h) ?_ | refine Need.mk rfl ?_ | refine Need.mk ⟨rfl, Nat.le_of_ble_eq_true rfl⟩ ?_ | refine Need.mk (Nat.le_of_ble_eq_true rfl) ?_ | refine Need.fin ?_ | refine Need.mk ?_ ?_ | refine Ix.strsF rfl ?_ | refine Ix.strs rfl ?_ ?_ | refine Cut.strs rfl ?_ ?_ | refine Ix.mapF (fun _ => rfl) ?_ | refine Ix.map (fun _ => rfl) ?_ ?_ | refine Cut.map (fun _ => rfl) ?_ ?_ | refine Fork.yes (by assumption) ?_ | refine Fork.no (by assumption) ?_ | refine Fork.decYes (by omega) ?_ | refine Fork.decNo (by omega) ?_ | refine Fork.dec (fun _ => ?_) (fun _ => ?_) | refine Fork.bne (fun _ => ?_) (fun _ => ?_) | refine Fork.beq (fun _ => ?_) (fun _ => ?_) | refine Fork.seq (fun _ => ?_) (fun _ => ?_) | refine Fork.sne (fun _ => ?_) (fun _ => ?_) | refine Fork.neg (fun _ => ?_) (fun _ => ?_) | refine Fork.mk (fun _ => ?_) (fun _ => ?_) | refine GFork.fork (.val (.bool false)) (fun hgf => ?_) (fun hgf => ?_) | refine HAlt.mk ?_ ?_ | apply HJoin.mk3 | exact HEnd.mk rfl rfl rfl | refine HEnd.mk ?_ ?_ ?_ | refine Round.mk ?_ | refine NilQ.mk (fun b hb => ?_) | refine forceK_of ?_ | refine forceBx_of ?_ | refine unG_old ?_ | refine unG_gv ?_ | refine Lit.read rfl ?_ | refine LitO.own rfl ?_ | refine FinVal.keep ?_ | refine FinAgg.keep ?_ | refine Final.mk rfl rfl | refine Final.mk ?_ rfl | refine Final.mk ?_ ?_ | refine FinalT.mk ?_ ?_ | refine FinalI.mk ?_ | refine FinalC.cur ?_ | refine ACall.drwK (dPat.drw) rfl (by assumption) (by repeat' first | exact SeesL.nil | refine SeesL.cons ?_ ?_ | exact Or.inl ⟨rfl, rfl⟩ | exact Or.inr (Sees0.str _) | exact Or.inr (Sees0.val _) | exact Or.inr (Sees0.olds _ _) | exact Or.inr (Sees0.old _) | exact Or.inr (Sees0.oldagg _) | exact Or.inr (Sees0.list rfl) | exact Or.inr Sees0.nil) rfl (fun a i' h' hi' hq => ?_))
    | refine AV.bool_congr ?_ | refine AV.int_congr ?_ | refine AV.str_congr ?_ | refine AV.list_congr ?_ | with_reducible rfl | refine fr1 ?_ | refine fr2 ?_ ?_
  obtain ⟨rl, args⟩ := a
  obtain ⟨q1, q2, q3⟩ := hq
  simp only at q1 q2 q3
  have r10 := (rel_name _ q1).2
  have a10 : ∀ s ∈ args, s.length ≤ 10 := fun s hs => (q3 s hs).elim (atom_len s) (term_len s)
  have a11 : ∀ w ∈ words, ∀ s ∈ args ++ [w], s.length ≤ 10 := fun w hw s hs => by
    rcases List.mem_append.1 hs with hs | hs
    · exact a10 s hs
    · rw [List.mem_singleton.1 hs]; exact word_len w hw
  cases args with
  | nil =>
    have q2 : ([] : List Str).length ≤ 2 := q2
    repeat' first
      | contradiction | exact trivial
      | (conv => whnf
         first | refine Need.mk (fun h => h) ?_ | refine Need.mk rfl ?_ | refine Need.mk ⟨rfl, Nat.le_of_ble_eq_true rfl⟩ ?_ | refine Need.mk (Nat.le_of_ble_eq_true rfl) ?_ | refine Need.fin ?_ | refine Need.mk ?_ ?_ | refine Ix.strsF rfl ?_ | refine Ix.strs rfl ?_ ?_ | refine Cut.mk _ (fun _ => cl hq) ?_ | refine Cut.strs rfl ?_ ?_ | refine Ix.mapF (fun _ => rfl) ?_ | refine Ix.map (fun _ => rfl) ?_ ?_ | refine Cut.map (fun _ => rfl) ?_ ?_ | refine Fork.yes (by assumption) ?_ | refine Fork.no (by assumption) ?_ | refine Fork.decYes (by omega) ?_ | refine Fork.decNo (by omega) ?_ | refine Fork.dec (fun _ => ?_) (fun _ => ?_) | refine Fork.bne (fun _ => ?_) (fun _ => ?_) | refine Fork.beq (fun _ => ?_) (fun _ => ?_) | refine Fork.seq (fun _ => ?_) (fun _ => ?_) | refine Fork.sne (fun _ => ?_) (fun _ => ?_) | refine Fork.neg (fun _ => ?_) (fun _ => ?_) | refine Fork.mk (fun _ => ?_) (fun _ => ?_) | refine GFork.fork (.val (.bool false)) (fun hgf => ?_) (fun hgf => ?_) | refine HAlt.mk ?_ ?_ | refine HJoin.split ?_ | exact HEnd.mk rfl rfl rfl | refine HEnd.mk ?_ ?_ ?_ | refine Round.mk ?_ | refine NilQ.mk (fun b hb => ?_) | refine forceK_of ?_ | refine forceBx_of ?_ | refine unG_old ?_ | refine unG_gv ?_ | refine Lit.read rfl ?_ | refine LitO.own rfl ?_ | refine FinVal.keep ?_ | refine FinAgg.keep ?_ | refine Final.mk rfl rfl | refine Final.mk ?_ rfl | refine Final.mk ?_ ?_ | refine FinalT.mk ?_ ?_ | refine FinalI.mk ?_ | refine FinalC.cur ?_ | refine ACall.drw (dBelow.drw _ ?_) rfl (by assumption) (by repeat' first | exact SeesL.nil | refine SeesL.cons ?_ ?_ | exact Or.inl ⟨rfl, rfl⟩ | exact Or.inr (Sees0.str _) | exact Or.inr (Sees0.val _) | exact Or.inr (Sees0.olds _ _) | exact Or.inr (Sees0.old _) | exact Or.inr (Sees0.oldagg _) | exact Or.inr (Sees0.list rfl) | exact Or.inr Sees0.nil) rfl (fun a i' h' hi' hq => ?_) | refine ACall.drw (dWord.drw) rfl (by assumption) (by repeat' first | exact SeesL.nil | refine SeesL.cons ?_ ?_ | exact Or.inl ⟨rfl, rfl⟩ | exact Or.inr (Sees0.str _) | exact Or.inr (Sees0.val _) | exact Or.inr (Sees0.olds _ _) | exact Or.inr (Sees0.old _) | exact Or.inr (Sees0.oldagg _) | exact Or.inr (Sees0.list rfl) | exact Or.inr Sees0.nil) rfl (fun a i' h' hi' hq => ?_))
      | refine AV.bool_congr ?_ | refine AV.int_congr ?_ | refine AV.str_congr ?_ | refine AV.list_congr ?_ | with_reducible rfl | refine fr1 ?_ | refine fr2 ?_ ?_
    all_goals first
      | decide
      | (intro c hc; rw [List.mem_singleton.1 hc]; rfl)
      | exact ⟨Nat.le_of_ble_eq_true rfl, Nat.le_of_ble_eq_true rfl⟩
      | exact (length_strs _).symm
      | (rw [length_strs]; exact ⟨by simp only [List.length_cons, List.length_nil] at *; omega, by simp only [List.length_cons, List.length_nil] at *; omega⟩)
      | (refine DrwEnd.at (a, []) (by assumption) ⟨Nat.le_trans q2 (by decide), word_len _ hq, a10⟩ ?_; (repeat' first | exact SeesL.nil | refine SeesL.cons ?_ ?_ | exact Sees0.val _ | exact Sees0.str _ | exact Sees0.olds _ _ | exact Sees0.old _ | exact Sees0.oldagg _ | exact Sees0.nil | refine Sees0.agg (SeesL.cons ?_ (SeesL.cons ?_ SeesL.nil)) | refine Sees0.agg (SeesL.cons ?_ (SeesL.cons ?_ (SeesL.cons ?_ (SeesL.cons ?_ (SeesL.cons ?_ SeesL.nil))))) | refine Sees0.agg ?_ | refine Sees0.tup ?_ | exact Sees0.list rfl | exact accSees _ _); done)
      | (refine DrwEnd.at (rl, [] ++ [a]) (by assumption) ⟨app4 q2, r10, a11 _ hq⟩ ?_; (repeat' first | exact SeesL.nil | refine SeesL.cons ?_ ?_ | exact Sees0.val _ | exact Sees0.str _ | exact Sees0.olds _ _ | exact Sees0.old _ | exact Sees0.oldagg _ | exact Sees0.nil | refine Sees0.agg (SeesL.cons ?_ (SeesL.cons ?_ SeesL.nil)) | refine Sees0.agg (SeesL.cons ?_ (SeesL.cons ?_ (SeesL.cons ?_ (SeesL.cons ?_ (SeesL.cons ?_ SeesL.nil))))) | refine Sees0.agg ?_ | refine Sees0.tup ?_ | exact Sees0.list rfl | exact accSees _ _); done)
      | (refine DrwEnd.at (rl, List.take a.toNat fourP) (by assumption) ⟨Nat.le_trans (List.length_take_le' _ _) (by decide), r10, fun s hs => fourP_len s (List.mem_of_mem_take (show s ∈ List.take a.toNat fourP from hs))⟩ ?_; (repeat' first | exact SeesL.nil | refine SeesL.cons ?_ ?_ | exact Sees0.val _ | exact Sees0.str _ | exact Sees0.olds _ _ | exact Sees0.old _ | exact Sees0.oldagg _ | exact Sees0.nil | refine Sees0.agg (SeesL.cons ?_ (SeesL.cons ?_ SeesL.nil)) | refine Sees0.agg (SeesL.cons ?_ (SeesL.cons ?_ (SeesL.cons ?_ (SeesL.cons ?_ (SeesL.cons ?_ SeesL.nil))))) | refine Sees0.agg ?_ | refine Sees0.tup ?_ | exact Sees0.list rfl | exact accSees _ _); done)
      | (refine DrwEnd.at (rl, []) (by assumption) ⟨Nat.le_trans q2 (by decide), r10, a10⟩ ?_; (repeat' first | exact SeesL.nil | refine SeesL.cons ?_ ?_ | exact Sees0.val _ | exact Sees0.str _ | exact Sees0.olds _ _ | exact Sees0.old _ | exact Sees0.oldagg _ | exact Sees0.nil | refine Sees0.agg (SeesL.cons ?_ (SeesL.cons ?_ SeesL.nil)) | refine Sees0.agg (SeesL.cons ?_ (SeesL.cons ?_ (SeesL.cons ?_ (SeesL.cons ?_ (SeesL.cons ?_ SeesL.nil))))) | refine Sees0.agg ?_ | refine Sees0.tup ?_ | exact Sees0.list rfl | exact accSees _ _); done)
  | cons y m =>
    rw [List.length_cons] at q2
    repeat' first
      | contradiction | exact trivial
      | (conv => whnf
         first | refine Need.mk (fun h => h) ?_ | refine Need.mk rfl ?_ | refine Need.mk ⟨rfl, Nat.le_of_ble_eq_true rfl⟩ ?_ | refine Need.mk (Nat.le_of_ble_eq_true rfl) ?_ | refine Need.fin ?_ | refine Need.mk ?_ ?_ | refine Ix.strsF rfl ?_ | refine Ix.strs rfl ?_ ?_ | refine Cut.mk _ (fun _ => cl hq) ?_ | refine Cut.strs rfl ?_ ?_ | refine Ix.mapF (fun _ => rfl) ?_ | refine Ix.map (fun _ => rfl) ?_ ?_ | refine Cut.map (fun _ => rfl) ?_ ?_ | refine Fork.yes (by assumption) ?_ | refine Fork.no (by assumption) ?_ | refine Fork.decYes (by omega) ?_ | refine Fork.decNo (by omega) ?_ | refine Fork.dec (fun _ => ?_) (fun _ => ?_) | refine Fork.bne (fun _ => ?_) (fun _ => ?_) | refine Fork.beq (fun _ => ?_) (fun _ => ?_) | refine Fork.seq (fun _ => ?_) (fun _ => ?_) | refine Fork.sne (fun _ => ?_) (fun _ => ?_) | refine Fork.neg (fun _ => ?_) (fun _ => ?_) | refine Fork.mk (fun _ => ?_) (fun _ => ?_) | refine GFork.fork (.val (.bool false)) (fun hgf => ?_) (fun hgf => ?_) | refine HAlt.mk ?_ ?_ | refine HJoin.split ?_ | exact HEnd.mk rfl rfl rfl | refine HEnd.mk ?_ ?_ ?_ | refine Round.mk ?_ | refine NilQ.mk (fun b hb => ?_) | refine forceK_of ?_ | refine forceBx_of ?_ | refine unG_old ?_ | refine unG_gv ?_ | refine Lit.read rfl ?_ | refine LitO.own rfl ?_ | refine FinVal.keep ?_ | refine FinAgg.keep ?_ | refine Final.mk rfl rfl | refine Final.mk ?_ rfl | refine Final.mk ?_ ?_ | refine FinalT.mk ?_ ?_ | refine FinalI.mk ?_ | refine FinalC.cur ?_ | refine ACall.drw (dBelow.drw _ ?_) rfl (by assumption) (by repeat' first | exact SeesL.nil | refine SeesL.cons ?_ ?_ | exact Or.inl ⟨rfl, rfl⟩ | exact Or.inr (Sees0.str _) | exact Or.inr (Sees0.val _) | exact Or.inr (Sees0.olds _ _) | exact Or.inr (Sees0.old _) | exact Or.inr (Sees0.oldagg _) | exact Or.inr (Sees0.list rfl) | exact Or.inr Sees0.nil) rfl (fun a i' h' hi' hq => ?_) | refine ACall.drw (dWord.drw) rfl (by assumption) (by repeat' first | exact SeesL.nil | refine SeesL.cons ?_ ?_ | exact Or.inl ⟨rfl, rfl⟩ | exact Or.inr (Sees0.str _) | exact Or.inr (Sees0.val _) | exact Or.inr (Sees0.olds _ _) | exact Or.inr (Sees0.old _) | exact Or.inr (Sees0.oldagg _) | exact Or.inr (Sees0.list rfl) | exact Or.inr Sees0.nil) rfl (fun a i' h' hi' hq => ?_))
      | refine AV.bool_congr ?_ | refine AV.int_congr ?_ | refine AV.str_congr ?_ | refine AV.list_congr ?_ | with_reducible rfl | refine fr1 ?_ | refine fr2 ?_ ?_
    all_goals first
      | decide
      | (intro c hc; rw [List.mem_singleton.1 hc]; rfl)
      | exact ⟨Nat.le_of_ble_eq_true rfl, Nat.le_of_ble_eq_true rfl⟩
      | exact (length_strs _).symm
      | (rw [length_strs]; exact ⟨by simp only [List.length_cons, List.length_nil] at *; omega, by simp only [List.length_cons, List.length_nil] at *; omega⟩)
      | (refine DrwEnd.at (a, (y :: m)) (by assumption) ⟨Nat.le_trans q2 (by decide), word_len _ hq, a10⟩ ?_; (repeat' first | exact SeesL.nil | refine SeesL.cons ?_ ?_ | exact Sees0.val _ | exact Sees0.str _ | exact Sees0.olds _ _ | exact Sees0.old _ | exact Sees0.oldagg _ | exact Sees0.nil | refine Sees0.agg (SeesL.cons ?_ (SeesL.cons ?_ SeesL.nil)) | refine Sees0.agg (SeesL.cons ?_ (SeesL.cons ?_ (SeesL.cons ?_ (SeesL.cons ?_ (SeesL.cons ?_ SeesL.nil))))) | refine Sees0.agg ?_ | refine Sees0.tup ?_ | exact Sees0.list rfl | exact accSees _ _); done)
      | (refine DrwEnd.at (rl, (y :: m) ++ [a]) (by assumption) ⟨app4 q2, r10, a11 _ hq⟩ ?_; exact Sees0.agg (SeesL.cons (Sees0.str _) (SeesL.cons (anySees _ _ _ _) SeesL.nil)))
      | (refine DrwEnd.at (rl, List.take a.toNat fourP) (by assumption) ⟨Nat.le_trans (List.length_take_le' _ _) (by decide), r10, fun s hs => fourP_len s (List.mem_of_mem_take (show s ∈ List.take a.toNat fourP from hs))⟩ ?_; (repeat' first | exact SeesL.nil | refine SeesL.cons ?_ ?_ | exact Sees0.val _ | exact Sees0.str _ | exact Sees0.olds _ _ | exact Sees0.old _ | exact Sees0.oldagg _ | exact Sees0.nil | refine Sees0.agg (SeesL.cons ?_ (SeesL.cons ?_ SeesL.nil)) | refine Sees0.agg (SeesL.cons ?_ (SeesL.cons ?_ (SeesL.cons ?_ (SeesL.cons ?_ (SeesL.cons ?_ SeesL.nil))))) | refine Sees0.agg ?_ | refine Sees0.tup ?_ | exact Sees0.list rfl | exact accSees _ _); done)
      | (refine DrwEnd.at (rl, (y :: m)) (by assumption) ⟨Nat.le_trans q2 (by decide), r10, a10⟩ ?_; (repeat' first | exact SeesL.nil | refine SeesL.cons ?_ ?_ | exact Sees0.val _ | exact Sees0.str _ | exact Sees0.olds _ _ | exact Sees0.old _ | exact Sees0.oldagg _ | exact Sees0.nil | refine Sees0.agg (SeesL.cons ?_ (SeesL.cons ?_ SeesL.nil)) | refine Sees0.agg (SeesL.cons ?_ (SeesL.cons ?_ (SeesL.cons ?_ (SeesL.cons ?_ (SeesL.cons ?_ SeesL.nil))))) | refine Sees0.agg ?_ | refine Sees0.tup ?_ | exact Sees0.list rfl | exact accSees _ _); done)
end Go.Proofs.Ytkbblglbbfdnpaa
namespace Go.Proofs.Ytkbblglbbfdnpaa
open Abs
def bindK (n : Nat) (b : List VPair) : AV := .list (some n) (pairs b)
theorem bindK_sh (n : Nat) (b : List VPair) : shiftK n (bindK 0 b) = bindK n b := by
  cases n with
  | zero => rfl
  | succ n =>
    show AV.list (some (0 + (n + 1))) (mapTLL _ (pairs b)) = _
    rw [pairs, rows, mapTLL_old, Nat.zero_add]; rfl
theorem pair_step (b : List VPair) (v x : Str) : pairs b ++ [[AV.str v, AV.str x]] = pairs (b ++ [(v, x)]) := by
  rw [pairs, rows, pairs, rows, List.map_append, oldLL_append]; rfl
theorem pairSees (o : Option Nat) (b : List VPair) (v x : Str) : Sees0 (.list o (pairs b ++ [[AV.str v, AV.str x]])) (.list none (pairs (b ++ [(v, x)]))) := by
  rw [pair_step]; exact Sees0.olds _ _
theorem pair_bd {b : List VPair} {v x : Str} (h : ∀ p ∈ b, p.1.length ≤ 10 ∧ p.2.length ≤ 10) (hv : v.length ≤ 10) (hx : x.length ≤ 10) : ∀ p ∈ b ++ [(v, x)], p.1.length ≤ 10 ∧ p.2.length ≤ 10 := fun p hp => by
  rcases List.mem_append.1 hp with hp | hp
  · exact h p hp
  · rw [List.mem_singleton.1 hp]; exact ⟨hv, hx⟩
theorem ix_terms {i : Nat} (h : i < 3) : (0 : Int) ≤ i ∧ (strs terms)[(i : Int).toNat]? = some [.str (terms.getD i [])] ∧ [AV.str (terms.getD i [])].length = 1 := by
  refine ⟨by omega, ?_, rfl⟩
  have h' : i < terms.length := h
  rw [Int.toNat_natCast, strs_eq, List.getElem?_map, List.getElem?_eq_getElem h']
  simp [List.getD, h']
set_option maxHeartbeats 2000000 in
theorem dBind.drw : DrwK false Try.prog 86 [] (fun b : List VPair => b.length ≤ 3 ∧ ∀ p ∈ b, p.1.length ≤ 10 ∧ p.2.length ≤ 10) bindK (fun b => [(50, 2, b.length), (9, 1, 3)]) := by
  refine DrwK.of bindK_sh (fun _ => rfl) fun l i h hi => dBind.ofL rfl rfl ?_
  repeat' first
    | contradiction | exact trivial
    | (conv => whnf
       first | refine Need.mk (fun h => h) ?_ | refine Need.mk rfl ?_ | refine Need.mk ⟨rfl, Nat.le_of_ble_eq_true rfl⟩ ?_ | refine Need.mk (Nat.le_of_ble_eq_true rfl) ?_ | refine Need.fin ?_ | refine Need.mk ?_ ?_ | refine Ix.strsF rfl ?_ | refine Ix.strs rfl ?_ ?_ | refine Cut.strs rfl ?_ ?_ | refine Ix.mapF (fun _ => rfl) ?_ | refine Ix.map (fun _ => rfl) ?_ ?_ | refine Cut.map (fun _ => rfl) ?_ ?_ | refine Fork.yes (by assumption) ?_ | refine Fork.no (by assumption) ?_ | refine Fork.decYes (by omega) ?_ | refine Fork.decNo (by omega) ?_ | refine Fork.dec (fun _ => ?_) (fun _ => ?_) | refine Fork.bne (fun _ => ?_) (fun _ => ?_) | refine Fork.beq (fun _ => ?_) (fun _ => ?_) | refine Fork.seq (fun _ => ?_) (fun _ => ?_) | refine Fork.sne (fun _ => ?_) (fun _ => ?_) | refine Fork.neg (fun _ => ?_) (fun _ => ?_) | refine Fork.mk (fun _ => ?_) (fun _ => ?_) | refine GFork.fork (.val (.bool false)) (fun hgf => ?_) (fun hgf => ?_) | refine HAlt.mk ?_ ?_ | apply HJoin.mk3 | exact HEnd.mk rfl rfl rfl | refine HEnd.mk ?_ ?_ ?_ | refine Round.mk ?_ | refine NilQ.mk (fun b hb => ?_) | refine forceK_of ?_ | refine forceBx_of ?_ | refine unG_old ?_ | refine unG_gv ?_ | refine Lit.read rfl ?_ | refine LitO.own rfl ?_ | refine FinVal.keep ?_ | refine FinAgg.keep ?_ | refine Final.mk rfl rfl | refine Final.mk ?_ rfl | refine Final.mk ?_ ?_ | refine FinalT.mk ?_ ?_ | refine FinalI.mk ?_ | refine FinalC.cur ?_)
    | refine AV.bool_congr ?_ | refine AV.int_congr ?_ | refine AV.str_congr ?_ | refine AV.list_congr ?_ | with_reducible rfl | refine fr1 ?_ | refine fr2 ?_ ?_
  refine ALoop.mk (Nat × Int × Int × List VPair) (fun s => ⟨[(0, .bptr 0 0), (3, .list (some 0) (pairs s.2.2.2)), (7, .list (some 1) (strs terms)), (8, .val (.int .i64 3)), (9, .val (.int .i64 s.1))], [curB l s.2.1 s.2.2.1], [(50, 2, s.2.2.2.length), (9, 1, 3)]⟩)
    (fun s => s.1 ≤ 3 ∧ CurOk l s.2.1 ∧ s.2.2.2.length ≤ s.1 ∧ ∀ p ∈ s.2.2.2, p.1.length ≤ 10 ∧ p.2.length ≤ 10) (fun s => 3 - s.1) ⟨(0, i, h, []), ⟨Nat.zero_le _, hi, Nat.le_refl _, by simp⟩, ?_⟩ (fun s hs => ?_)
  · repeat' first
      | exact trivial | refine Weak.mk ?_ ?_ ?_ ?_ (Or.inl (Nat.le_of_ble_eq_true rfl)) | refine Weak.mk ?_ ?_ ?_ ?_ (Or.inr ⟨(by repeat' first | exact trivial | exact Nat.le_of_ble_eq_true rfl | refine And.intro ?_ ?_), (by repeat' first | exact trivial | exact Nat.le_of_ble_eq_true rfl | refine And.intro ?_ ?_)⟩) | refine Weak.mk ?_ ?_ ?_ ?_ ?_ | refine And.intro ?_ ?_ | with_reducible rfl | exact Nat.le_of_ble_eq_true rfl | refine fr1 ?_ | refine fr2 ?_ ?_ | refine AV.int_congr ?_ | refine AV.bool_congr ?_ | refine AV.str_congr ?_ | refine AV.list_congr ?_ | refine AV.bsl_congr ?_ ?_ | (apply rfl)
  obtain ⟨n, ci, ch, b⟩ := s
  obtain ⟨s1, s2, s3, s4⟩ := hs
  simp only at s1 s2 s3 s4
  by_cases hn : n < 3
  · have hix := ix_terms hn
    have htl : (terms.getD n []).length ≤ 10 := term_len _ (by simp [List.getD, show n < terms.length from hn])
    repeat' first
      | contradiction | exact trivial
      | (conv => whnf
         first | refine Need.mk (fun h => h) ?_ | refine Need.mk rfl ?_ | refine Need.mk ⟨rfl, Nat.le_of_ble_eq_true rfl⟩ ?_ | refine Need.mk (Nat.le_of_ble_eq_true rfl) ?_ | refine Need.fin ?_ | refine Need.mk ?_ ?_ | refine Ix.mk _ (fun _ => hix) ?_ | refine Ix.strsF rfl ?_ | refine Ix.strs rfl ?_ ?_ | refine Cut.strs rfl ?_ ?_ | refine Ix.mapF (fun _ => rfl) ?_ | refine Ix.map (fun _ => rfl) ?_ ?_ | refine Cut.map (fun _ => rfl) ?_ ?_ | refine Fork.yes (by assumption) ?_ | refine Fork.no (by assumption) ?_ | refine Fork.decYes (by omega) ?_ | refine Fork.decNo (by omega) ?_ | refine Fork.dec (fun _ => ?_) (fun _ => ?_) | refine Fork.bne (fun _ => ?_) (fun _ => ?_) | refine Fork.beq (fun _ => ?_) (fun _ => ?_) | refine Fork.seq (fun _ => ?_) (fun _ => ?_) | refine Fork.sne (fun _ => ?_) (fun _ => ?_) | refine Fork.neg (fun _ => ?_) (fun _ => ?_) | refine Fork.mk (fun _ => ?_) (fun _ => ?_) | refine GFork.fork (.val (.bool false)) (fun hgf => ?_) (fun hgf => ?_) | refine HAlt.mk ?_ ?_ | apply HJoin.mk3 | exact HEnd.mk rfl rfl rfl | refine HEnd.mk ?_ ?_ ?_ | refine Round.mk ?_ | refine NilQ.mk (fun b hb => ?_) | refine forceK_of ?_ | refine forceBx_of ?_ | refine unG_old ?_ | refine unG_gv ?_ | refine Lit.read rfl ?_ | refine LitO.own rfl ?_ | refine FinVal.keep ?_ | refine FinAgg.keep ?_ | refine Final.mk rfl rfl | refine Final.mk ?_ rfl | refine Final.mk ?_ ?_ | refine FinalT.mk ?_ ?_ | refine FinalI.mk ?_ | refine FinalC.cur ?_ | refine ACall.drw (dOnce.drw _ ?_) rfl (by assumption) (by repeat' first | exact SeesL.nil | refine SeesL.cons ?_ ?_ | exact Or.inl ⟨rfl, rfl⟩ | exact Or.inr (Sees0.str _) | exact Or.inr (Sees0.val _) | exact Or.inr (Sees0.olds _ _) | exact Or.inr (Sees0.old _) | exact Or.inr (Sees0.oldagg _) | exact Or.inr (Sees0.list rfl) | exact Or.inr Sees0.nil) rfl (fun a i' h' hi' hq => ?_) | refine ACall.drw (dAtom.drw) rfl (by assumption) (by repeat' first | exact SeesL.nil | refine SeesL.cons ?_ ?_ | exact Or.inl ⟨rfl, rfl⟩ | exact Or.inr (Sees0.str _) | exact Or.inr (Sees0.val _) | exact Or.inr (Sees0.olds _ _) | exact Or.inr (Sees0.old _) | exact Or.inr (Sees0.oldagg _) | exact Or.inr (Sees0.list rfl) | exact Or.inr Sees0.nil) rfl (fun a i' h' hi' hq => ?_))
      | refine AV.bool_congr ?_ | refine AV.int_congr ?_ | refine AV.str_congr ?_ | refine AV.list_congr ?_ | with_reducible rfl | refine fr1 ?_ | refine fr2 ?_ ?_
    · decide
    · exact (length_rows _ _).symm
    · intro c hc; rw [List.mem_singleton.1 hc]; rfl
    · rw [length_rows]; exact ⟨by simp only [List.length_cons, List.length_nil]; omega, by simp only [List.length_cons, List.length_nil]; omega⟩
    · refine ⟨(n + 1, i', h', b ++ [(terms.getD n [], a)]), ⟨hn, hi', by rw [List.length_append, List.length_singleton]; exact Nat.succ_le_succ s3, fun p hp => ?_⟩, ?_, by show 3 - (n + 1) < 3 - n; omega⟩
      · rcases List.mem_append.1 hp with hp | hp
        · exact s4 p hp
        · rw [List.mem_singleton.1 hp]; exact ⟨htl, atom_len a hq⟩
      repeat' first
        | exact trivial | refine Weak.mk ?_ ?_ ?_ ?_ (Or.inl (Nat.le_of_ble_eq_true rfl)) | refine Weak.mk ?_ ?_ ?_ ?_ (Or.inr ⟨(by repeat' first | exact trivial | exact Nat.le_of_ble_eq_true rfl | refine And.intro ?_ ?_), (by repeat' first | exact trivial | exact Nat.le_of_ble_eq_true rfl | refine And.intro ?_ ?_)⟩) | refine Weak.mk ?_ ?_ ?_ ?_ ?_ | refine And.intro ?_ ?_ | with_reducible rfl | exact Nat.le_of_ble_eq_true rfl | refine fr1 ?_ | refine fr2 ?_ ?_ | refine AV.int_congr ?_ | refine AV.bool_congr ?_ | refine AV.str_congr ?_ | refine AV.list_congr ?_ | refine AV.bsl_congr ?_ ?_ | (apply rfl)
      all_goals first
        | exact pair_step _ _ _
        | (show IntKind.i64.wrap ((n : Int) + 1) = _; rw [wrap64 (by omega) (by omega)]; rfl)
        | (rw [length_rows, List.length_append]; rfl)
    · refine ⟨(n + 1, i', h', b), ⟨hn, hi', Nat.le_succ_of_le s3, s4⟩, ?_, by show 3 - (n + 1) < 3 - n; omega⟩
      repeat' first
        | exact trivial | refine Weak.mk ?_ ?_ ?_ ?_ (Or.inl (Nat.le_of_ble_eq_true rfl)) | refine Weak.mk ?_ ?_ ?_ ?_ (Or.inr ⟨(by repeat' first | exact trivial | exact Nat.le_of_ble_eq_true rfl | refine And.intro ?_ ?_), (by repeat' first | exact trivial | exact Nat.le_of_ble_eq_true rfl | refine And.intro ?_ ?_)⟩) | refine Weak.mk ?_ ?_ ?_ ?_ ?_ | refine And.intro ?_ ?_ | with_reducible rfl | exact Nat.le_of_ble_eq_true rfl | refine fr1 ?_ | refine fr2 ?_ ?_ | refine AV.int_congr ?_ | refine AV.bool_congr ?_ | refine AV.str_congr ?_ | refine AV.list_congr ?_ | refine AV.bsl_congr ?_ ?_ | (apply rfl)
      all_goals first
        | (show IntKind.i64.wrap ((n : Int) + 1) = _; rw [wrap64 (by omega) (by omega)]; rfl)
  · repeat' first
      | contradiction | exact trivial
      | (conv => whnf
         first | refine Need.mk (fun h => h) ?_ | refine Need.mk rfl ?_ | refine Need.mk ⟨rfl, Nat.le_of_ble_eq_true rfl⟩ ?_ | refine Need.mk (Nat.le_of_ble_eq_true rfl) ?_ | refine Need.fin ?_ | refine Need.mk ?_ ?_ | refine Ix.strsF rfl ?_ | refine Ix.strs rfl ?_ ?_ | refine Cut.strs rfl ?_ ?_ | refine Ix.mapF (fun _ => rfl) ?_ | refine Ix.map (fun _ => rfl) ?_ ?_ | refine Cut.map (fun _ => rfl) ?_ ?_ | refine Fork.yes (by assumption) ?_ | refine Fork.no (by assumption) ?_ | refine Fork.decYes (by omega) ?_ | refine Fork.decNo (by omega) ?_ | refine Fork.dec (fun _ => ?_) (fun _ => ?_) | refine Fork.bne (fun _ => ?_) (fun _ => ?_) | refine Fork.beq (fun _ => ?_) (fun _ => ?_) | refine Fork.seq (fun _ => ?_) (fun _ => ?_) | refine Fork.sne (fun _ => ?_) (fun _ => ?_) | refine Fork.neg (fun _ => ?_) (fun _ => ?_) | refine Fork.mk (fun _ => ?_) (fun _ => ?_) | refine GFork.fork (.val (.bool false)) (fun hgf => ?_) (fun hgf => ?_) | refine HAlt.mk ?_ ?_ | apply HJoin.mk3 | exact HEnd.mk rfl rfl rfl | refine HEnd.mk ?_ ?_ ?_ | refine Round.mk ?_ | refine NilQ.mk (fun b hb => ?_) | refine forceK_of ?_ | refine forceBx_of ?_ | refine unG_old ?_ | refine unG_gv ?_ | refine Lit.read rfl ?_ | refine LitO.own rfl ?_ | refine FinVal.keep ?_ | refine FinAgg.keep ?_ | refine Final.mk rfl rfl | refine Final.mk ?_ rfl | refine Final.mk ?_ ?_ | refine FinalT.mk ?_ ?_ | refine FinalI.mk ?_ | refine FinalC.cur ?_ | refine ACall.drw (dOnce.drw _ ?_) rfl (by assumption) (by repeat' first | exact SeesL.nil | refine SeesL.cons ?_ ?_ | exact Or.inl ⟨rfl, rfl⟩ | exact Or.inr (Sees0.str _) | exact Or.inr (Sees0.val _) | exact Or.inr (Sees0.olds _ _) | exact Or.inr (Sees0.old _) | exact Or.inr (Sees0.oldagg _) | exact Or.inr (Sees0.list rfl) | exact Or.inr Sees0.nil) rfl (fun a i' h' hi' hq => ?_) | refine ACall.drw (dAtom.drw) rfl (by assumption) (by repeat' first | exact SeesL.nil | refine SeesL.cons ?_ ?_ | exact Or.inl ⟨rfl, rfl⟩ | exact Or.inr (Sees0.str _) | exact Or.inr (Sees0.val _) | exact Or.inr (Sees0.olds _ _) | exact Or.inr (Sees0.old _) | exact Or.inr (Sees0.oldagg _) | exact Or.inr (Sees0.list rfl) | exact Or.inr Sees0.nil) rfl (fun a i' h' hi' hq => ?_))
      | refine AV.bool_congr ?_ | refine AV.int_congr ?_ | refine AV.str_congr ?_ | refine AV.list_congr ?_ | with_reducible rfl | refine fr1 ?_ | refine fr2 ?_ ?_
    all_goals first
      | (exfalso; rename_i hlt; simp only at hlt; omega)
      | exact DrwEndK.at b (by assumption) ⟨Nat.le_trans s3 s1, s4⟩ rfl rfl
def sevens : List Int := [5, 6, 7]
set_option maxHeartbeats 2000000 in
theorem dAnyBind.drw : Drw false Try.prog 47 [] (fun b : List VPair => b.length ≤ 7 ∧ ∀ p ∈ b, p.1.length ≤ 10 ∧ p.2.length ≤ 10) (fun b => .l 50 2 (b.map tPair.q)) := by
  refine Drw.of fun l i h hi => dAnyBind.ofL rfl rfl ?_
  have h7 := dInt.drw sevens (by decide) (by decide)
  repeat' first
    | contradiction | exact trivial
    | (conv => whnf
       first | refine Need.mk (fun h => h) ?_ | refine Need.mk rfl ?_ | refine Need.mk ⟨rfl, Nat.le_of_ble_eq_true rfl⟩ ?_ | refine Need.mk (Nat.le_of_ble_eq_true rfl) ?_ | refine Need.fin ?_ | refine Need.mk ?_ ?_ | refine Ix.strsF rfl ?_ | refine Ix.strs rfl ?_ ?_ | refine Cut.strs rfl ?_ ?_ | refine Ix.mapF (fun _ => rfl) ?_ | refine Ix.map (fun _ => rfl) ?_ ?_ | refine Cut.map (fun _ => rfl) ?_ ?_ | refine Fork.yes (by assumption) ?_ | refine Fork.no (by assumption) ?_ | refine Fork.decYes (by omega) ?_ | refine Fork.decNo (by omega) ?_ | refine Fork.dec (fun _ => ?_) (fun _ => ?_) | refine Fork.bne (fun _ => ?_) (fun _ => ?_) | refine Fork.beq (fun _ => ?_) (fun _ => ?_) | refine Fork.seq (fun _ => ?_) (fun _ => ?_) | refine Fork.sne (fun _ => ?_) (fun _ => ?_) | refine Fork.neg (fun _ => ?_) (fun _ => ?_) | refine Fork.mk (fun _ => ?_) (fun _ => ?_) | refine GFork.fork (.val (.bool false)) (fun hgf => ?_) (fun hgf => ?_) | refine HAlt.mk ?_ ?_ | apply HJoin.mk3 | exact HEnd.mk rfl rfl rfl | refine HEnd.mk ?_ ?_ ?_ | refine Round.mk ?_ | refine NilQ.mk (fun b hb => ?_) | refine forceK_of ?_ | refine forceBx_of ?_ | refine unG_old ?_ | refine unG_gv ?_ | refine Lit.read rfl ?_ | refine LitO.own rfl ?_ | refine FinVal.keep ?_ | refine FinAgg.keep ?_ | refine Final.mk rfl rfl | refine Final.mk ?_ rfl | refine Final.mk ?_ ?_ | refine FinalT.mk ?_ ?_ | refine FinalI.mk ?_ | refine FinalC.cur ?_ | refine ACall.drwK (dBind.drw) rfl (by assumption) (by repeat' first | exact SeesL.nil | refine SeesL.cons ?_ ?_ | exact Or.inl ⟨rfl, rfl⟩ | exact Or.inr (Sees0.str _) | exact Or.inr (Sees0.val _) | exact Or.inr (Sees0.olds _ _) | exact Or.inr (Sees0.old _) | exact Or.inr (Sees0.oldagg _) | exact Or.inr (Sees0.list rfl) | exact Or.inr Sees0.nil) rfl (fun a i' h' hi' hq => ?_))
    | refine AV.bool_congr ?_ | refine AV.int_congr ?_ | refine AV.str_congr ?_ | refine AV.list_congr ?_ | with_reducible rfl | refine fr1 ?_ | refine fr2 ?_ ?_
  obtain ⟨q1, q2⟩ := hq
  obtain ⟨b, hb⟩ : ∃ b, b = a := ⟨_, rfl⟩
  subst hb
  repeat' first
    | contradiction | exact trivial
    | (conv => whnf
       first | refine Need.mk (fun h => h) ?_ | refine Need.mk rfl ?_ | refine Need.mk ⟨rfl, Nat.le_of_ble_eq_true rfl⟩ ?_ | refine Need.mk (Nat.le_of_ble_eq_true rfl) ?_ | refine Need.fin ?_ | refine Need.mk ?_ ?_ | refine Ix.strsF rfl ?_ | refine Ix.strs rfl ?_ ?_ | refine Cut.strs rfl ?_ ?_ | refine Ix.mapF (fun _ => rfl) ?_ | refine Ix.map (fun _ => rfl) ?_ ?_ | refine Cut.map (fun _ => rfl) ?_ ?_ | refine Fork.yes (by assumption) ?_ | refine Fork.no (by assumption) ?_ | refine Fork.decYes (by omega) ?_ | refine Fork.decNo (by omega) ?_ | refine Fork.dec (fun _ => ?_) (fun _ => ?_) | refine Fork.bne (fun _ => ?_) (fun _ => ?_) | refine Fork.beq (fun _ => ?_) (fun _ => ?_) | refine Fork.seq (fun _ => ?_) (fun _ => ?_) | refine Fork.sne (fun _ => ?_) (fun _ => ?_) | refine Fork.neg (fun _ => ?_) (fun _ => ?_) | refine Fork.mk (fun _ => ?_) (fun _ => ?_) | refine GFork.fork (.val (.bool false)) (fun hgf => ?_) (fun hgf => ?_) | refine HAlt.mk ?_ ?_ | apply HJoin.mk3 | exact HEnd.mk rfl rfl rfl | refine HEnd.mk ?_ ?_ ?_ | refine Round.mk ?_ | refine NilQ.mk (fun b hb => ?_) | refine forceK_of ?_ | refine forceBx_of ?_ | refine unG_old ?_ | refine unG_gv ?_ | refine Lit.read rfl ?_ | refine LitO.own rfl ?_ | refine FinVal.keep ?_ | refine FinAgg.keep ?_ | refine Final.mk rfl rfl | refine Final.mk ?_ rfl | refine Final.mk ?_ ?_ | refine FinalT.mk ?_ ?_ | refine FinalI.mk ?_ | refine FinalC.cur ?_ | refine ACall.drw (dBelow.drw _ ?_) rfl (by assumption) (by repeat' first | exact SeesL.nil | refine SeesL.cons ?_ ?_ | exact Or.inl ⟨rfl, rfl⟩ | exact Or.inr (Sees0.str _) | exact Or.inr (Sees0.val _) | exact Or.inr (Sees0.olds _ _) | exact Or.inr (Sees0.old _) | exact Or.inr (Sees0.oldagg _) | exact Or.inr (Sees0.list rfl) | exact Or.inr Sees0.nil) rfl (fun a i' h' hi' hq => ?_) | refine ACall.drw (dWord.drw) rfl (by assumption) (by repeat' first | exact SeesL.nil | refine SeesL.cons ?_ ?_ | exact Or.inl ⟨rfl, rfl⟩ | exact Or.inr (Sees0.str _) | exact Or.inr (Sees0.val _) | exact Or.inr (Sees0.olds _ _) | exact Or.inr (Sees0.old _) | exact Or.inr (Sees0.oldagg _) | exact Or.inr (Sees0.list rfl) | exact Or.inr Sees0.nil) rfl (fun a i' h' hi' hq => ?_) | refine ACall.drw (h7) rfl (by assumption) (by repeat' first | exact SeesL.nil | refine SeesL.cons ?_ ?_ | exact Or.inl ⟨rfl, rfl⟩ | exact Or.inr (Sees0.str _) | exact Or.inr (Sees0.val _) | exact Or.inr (Sees0.olds _ _) | exact Or.inr (Sees0.old _) | exact Or.inr (Sees0.oldagg _) | exact Or.inr (Sees0.list rfl) | exact Or.inr Sees0.nil) rfl (fun a i' h' hi' hq => ?_))
    | refine AV.bool_congr ?_ | refine AV.int_congr ?_ | refine AV.str_congr ?_ | refine AV.list_congr ?_ | with_reducible rfl | refine fr1 ?_ | refine fr2 ?_ ?_
  all_goals first
    | decide
    | (intro c hc; rw [List.mem_singleton.1 hc]; rfl)
    | exact (length_rows _ _).symm
    | (rw [length_rows]; exact ⟨by simp only [List.length_cons, List.length_nil]; omega, by simp only [List.length_cons, List.length_nil]; omega⟩)
    | (refine DrwEnd.at b (by assumption) ⟨by omega, q2⟩ ?_; (repeat' first | exact SeesL.nil | refine SeesL.cons ?_ ?_ | exact Sees0.val _ | exact Sees0.str _ | exact Sees0.olds _ _ | exact Sees0.old _ | exact Sees0.oldagg _ | exact Sees0.nil | refine Sees0.agg (SeesL.cons ?_ (SeesL.cons ?_ SeesL.nil)) | refine Sees0.agg (SeesL.cons ?_ (SeesL.cons ?_ (SeesL.cons ?_ (SeesL.cons ?_ (SeesL.cons ?_ SeesL.nil))))) | refine Sees0.agg ?_ | refine Sees0.tup ?_ | exact Sees0.list rfl | exact accSees _ _); done)
    | skip
  · rename_i w1 _ _ _ hq1
    refine DrwEnd.at (b ++ [(w1, a)]) (by assumption) ⟨by rw [List.length_append, List.length_singleton]; omega, pair_bd q2 (word_len _ hq1) (word_len _ hq)⟩ (pairSees _ _ _ _)
  obtain ⟨n0, hn0⟩ : ∃ n0, n0 = a := ⟨_, rfl⟩
  subst hn0
  have hb0 : 0 ≤ n0 ∧ n0 ≤ 7 := (by decide : ∀ x ∈ sevens, 0 ≤ x ∧ x ≤ 7) n0 hq
  refine ALoop.mk (Nat × Int × Int × List VPair) (fun s => ⟨[(0, .bptr 0 0), (3, .list (some 2) (pairs s.2.2.2)), (4, .val (.int .i64 n0)), (5, .val (.int .i64 s.1))], [curB l s.2.1 s.2.2.1], [(50, 2, b.length), (9, 1, 3), (50, 2, s.2.2.2.length), (3, 1, 3)]⟩)
    (fun s => (s.1 : Int) ≤ n0 ∧ CurOk l s.2.1 ∧ s.2.2.2.length ≤ s.1 ∧ ∀ p ∈ s.2.2.2, p.1.length ≤ 10 ∧ p.2.length ≤ 10) (fun s => n0.toNat - s.1) ⟨(0, i', h', []), ⟨hb0.1, hi', Nat.le_refl _, by simp⟩, ?_⟩ (fun s hs => ?_)
  · repeat' first
      | exact trivial | refine Weak.mk ?_ ?_ ?_ ?_ (Or.inl (Nat.le_of_ble_eq_true rfl)) | refine Weak.mk ?_ ?_ ?_ ?_ (Or.inr ⟨(by repeat' first | exact trivial | exact Nat.le_of_ble_eq_true rfl | refine And.intro ?_ ?_), (by repeat' first | exact trivial | exact Nat.le_of_ble_eq_true rfl | refine And.intro ?_ ?_)⟩) | refine Weak.mk ?_ ?_ ?_ ?_ ?_ | refine And.intro ?_ ?_ | with_reducible rfl | exact Nat.le_of_ble_eq_true rfl | refine fr1 ?_ | refine fr2 ?_ ?_ | refine AV.int_congr ?_ | refine AV.bool_congr ?_ | refine AV.str_congr ?_ | refine AV.list_congr ?_ | refine AV.bsl_congr ?_ ?_ | (apply rfl)
  obtain ⟨n, ci, ch, c⟩ := s
  obtain ⟨s1, s2, s3, s4⟩ := hs
  simp only at s1 s2 s3 s4
  have hf := Ret.weak (mo := false) (sFormatInt.ret n (by omega))
  have hfl := fmt_len4 (n := n) (by omega)
  repeat' first
    | contradiction | exact trivial
    | (conv => whnf
       first | refine Need.mk (fun h => h) ?_ | refine Need.mk rfl ?_ | refine Need.mk ⟨rfl, Nat.le_of_ble_eq_true rfl⟩ ?_ | refine Need.mk (Nat.le_of_ble_eq_true rfl) ?_ | refine Need.fin ?_ | refine Need.mk ?_ ?_ | refine Ix.strsF rfl ?_ | refine Ix.strs rfl ?_ ?_ | refine Cut.strs rfl ?_ ?_ | refine Ix.mapF (fun _ => rfl) ?_ | refine Ix.map (fun _ => rfl) ?_ ?_ | refine Cut.map (fun _ => rfl) ?_ ?_ | refine Fork.yes (by assumption) ?_ | refine Fork.no (by assumption) ?_ | refine Fork.decYes (by omega) ?_ | refine Fork.decNo (by omega) ?_ | refine Fork.dec (fun _ => ?_) (fun _ => ?_) | refine Fork.bne (fun _ => ?_) (fun _ => ?_) | refine Fork.beq (fun _ => ?_) (fun _ => ?_) | refine Fork.seq (fun _ => ?_) (fun _ => ?_) | refine Fork.sne (fun _ => ?_) (fun _ => ?_) | refine Fork.neg (fun _ => ?_) (fun _ => ?_) | refine Fork.mk (fun _ => ?_) (fun _ => ?_) | refine GFork.fork (.val (.bool false)) (fun hgf => ?_) (fun hgf => ?_) | refine HAlt.mk ?_ ?_ | apply HJoin.mk3 | exact HEnd.mk rfl rfl rfl | refine HEnd.mk ?_ ?_ ?_ | refine Round.mk ?_ | refine NilQ.mk (fun b hb => ?_) | refine forceK_of ?_ | refine forceBx_of ?_ | refine unG_old ?_ | refine unG_gv ?_ | refine Lit.read rfl ?_ | refine LitO.own rfl ?_ | refine FinVal.keep ?_ | refine FinAgg.keep ?_ | refine Final.mk rfl rfl | refine Final.mk ?_ rfl | refine Final.mk ?_ ?_ | refine FinalT.mk ?_ ?_ | refine FinalI.mk ?_ | refine FinalC.cur ?_ | refine ACall.scalA _ _ (hf) rfl ?_ | refine AQCall.mkA _ _ (fun hg => hf) rfl ?_ | refine AGCall.mkA _ _ (fun hg => hf) rfl ?_ | refine ACall.drw (dAtom.drw) rfl (by assumption) (by repeat' first | exact SeesL.nil | refine SeesL.cons ?_ ?_ | exact Or.inl ⟨rfl, rfl⟩ | exact Or.inr (Sees0.str _) | exact Or.inr (Sees0.val _) | exact Or.inr (Sees0.olds _ _) | exact Or.inr (Sees0.old _) | exact Or.inr (Sees0.oldagg _) | exact Or.inr (Sees0.list rfl) | exact Or.inr Sees0.nil) rfl (fun a i' h' hi' hq => ?_))
    | refine AV.bool_congr ?_ | refine AV.int_congr ?_ | refine AV.str_congr ?_ | refine AV.list_congr ?_ | with_reducible rfl | refine fr1 ?_ | refine fr2 ?_ ?_
  all_goals first
    | decide
    | (intro c hc; rw [List.mem_singleton.1 hc]; rfl)
    | exact (length_rows _ _).symm
    | (rw [length_rows]; exact ⟨by simp only [List.length_cons, List.length_nil]; omega, by simp only [List.length_cons, List.length_nil]; omega⟩)
    | (refine DrwEnd.at c (by assumption) ⟨by omega, s4⟩ ?_; (repeat' first | exact SeesL.nil | refine SeesL.cons ?_ ?_ | exact Sees0.val _ | exact Sees0.str _ | exact Sees0.olds _ _ | exact Sees0.old _ | exact Sees0.oldagg _ | exact Sees0.nil | refine Sees0.agg (SeesL.cons ?_ (SeesL.cons ?_ SeesL.nil)) | refine Sees0.agg (SeesL.cons ?_ (SeesL.cons ?_ (SeesL.cons ?_ (SeesL.cons ?_ (SeesL.cons ?_ SeesL.nil))))) | refine Sees0.agg ?_ | refine Sees0.tup ?_ | exact Sees0.list rfl | exact accSees _ _); done)
    | skip
  · show 2 + (fmt n).length ≤ 1099511627776
    omega
  · refine ⟨(n + 1, i', h', c ++ [([63, 118] ++ fmt n, a)]), ⟨by rename_i hlt; simp only at hlt ⊢; omega, hi', by rw [List.length_append, List.length_singleton]; exact Nat.succ_le_succ s3, pair_bd s4 (by rw [List.length_append]; show 2 + _ ≤ 10; omega) (atom_len _ hq)⟩, ?_, by rename_i hlt; simp only at hlt ⊢; omega⟩
    repeat' first
      | exact trivial | refine Weak.mk ?_ ?_ ?_ ?_ (Or.inl (Nat.le_of_ble_eq_true rfl)) | refine Weak.mk ?_ ?_ ?_ ?_ (Or.inr ⟨(by repeat' first | exact trivial | exact Nat.le_of_ble_eq_true rfl | refine And.intro ?_ ?_), (by repeat' first | exact trivial | exact Nat.le_of_ble_eq_true rfl | refine And.intro ?_ ?_)⟩) | refine Weak.mk ?_ ?_ ?_ ?_ ?_ | refine And.intro ?_ ?_ | with_reducible rfl | exact Nat.le_of_ble_eq_true rfl | refine fr1 ?_ | refine fr2 ?_ ?_ | refine AV.int_congr ?_ | refine AV.bool_congr ?_ | refine AV.str_congr ?_ | refine AV.list_congr ?_ | refine AV.bsl_congr ?_ ?_ | (apply rfl)
    all_goals first
      | exact pair_step _ _ _
      | (show IntKind.i64.wrap ((n : Int) + 1) = _; rw [wrap64 (by omega) (by omega)]; rfl)
      | (show _ = [_, _, (50, 2, (c ++ [([63, 118] ++ fmt n, a)]).length), _]; rw [length_rows, List.length_append]; rfl)
theorem accSees (n : Nat) (l : List Str) : Sees0 (accK n l) (.list none (strs l)) := by
  cases l with
  | nil => exact Sees0.nil
  | cons x l => exact Sees0.olds _ _
theorem list_bd {l : List Str} (h : ∀ s ∈ l, s.length ≤ 10) : listSize Ty.str l ≤ 10 * l.length := by
  induction l with
  | nil => exact Nat.zero_le _
  | cons s l ih =>
    have h1 := h s (by simp)
    have h2 := ih fun x hx => h x (by simp [hx])
    show s.length + listSize Ty.str l ≤ 10 * (l.length + 1)
    omega
abbrev pairsX (b : List VPair) : Tr := .l 50 2 (b.map tPair.q)
abbrev pairsB (b : List VPair) : Prop := b.length ≤ 7 ∧ ∀ p ∈ b, p.1.length ≤ 10 ∧ p.2.length ≤ 10
abbrev fctB (f : Fct) : Prop := f.2.length ≤ 4 ∧ f.1.length ≤ 10 ∧ ∀ s ∈ f.2, s.length ≤ 10
end Go.Proofs.Ytkbblglbbfdnpaa
namespace Go.Proofs.Ytkbblglbbfdnpaa
open Abs
theorem slClone.ret (l : List Str) (h : l.length ≤ 1048576) : slClone.Ret [.list none (strs l)] (.list (some 0) (strs l)) [(9, 1, l.length)] := by
  refine slClone.of rfl ?_
  repeat' first
    | (conv => whnf
       first | refine Need.mk rfl ?_ | refine Need.mk ?_ ?_ | refine Fork.neg (fun _ => ?_) (fun _ => ?_) | refine NilQ.mk (fun b hb => ?_) | refine LitO.own rfl ?_ | refine FinVal.nil 9 1 rfl ?_ | refine Final.mk ?_ ?_)
    | refine AV.list_congr ?_ | refine fr1 ?_
  · rename_i h1
    have hl : l = [] := List.eq_nil_of_length_eq_zero (by rw [length_strs] at hb; exact hb (by revert h1; cases b <;> simp))
    subst hl; rfl
  · rename_i h1
    have hl : l = [] := List.eq_nil_of_length_eq_zero (by rw [length_strs] at hb; exact hb (by revert h1; cases b <;> simp))
    subst hl; rfl
  · exact strs_sz l
  · simp; omega
  · rfl
  · simp
end Go.Proofs.Ytkbblglbbfdnpaa
namespace Go.Proofs.Ytkbblglbbfdnpaa
namespace Abs
variable {mo : Bool}
open Go.RowKit Go.Sort
theorem heap_putRow {α : Type} [Inhabited α] (enc : α → Value) (w : World) (blk off : Nat) (d : Array α) (c : Array Value) (t : TypeId) (z : Nat × Nat) (h : w.heap[blk]? = some (.cells c t z)) :
    (putRow enc w blk off d).heap[blk]? = some (.cells (putCells enc off d c) t z) := by
  simp [putRow, mapBlock, Array.getElem?_modify, h, onCells]
theorem heap_putRow_other {α : Type} [Inhabited α] (enc : α → Value) (w : World) (blk off : Nat) (d : Array α) (k : Nat) (h : k ≠ blk) : (putRow enc w blk off d).heap[k]? = w.heap[k]? := by
  simp [putRow, mapBlock, Array.getElem?_modify, Ne.symm h]
theorem heap_grow (w : World) (os : Array Obj) (k : Nat) (h : k < w.heap.size) : (grow w os).heap[k]? = w.heap[k]? := by
  simp [grow, Array.getElem?_append, h]
/-- a row that is lent has been turned; nothing else has -/
theorem gpost_row {w w' : World} {F : Nat → Nat} {box0 : List BId} {b0 : List ABox} {Φ : AV → List ABox → Prop} (hout : ∀ b, w.heap.size ≤ b → F b = 0) (hbl : box0.length = b0.length)
    (hbi : ∀ (j b c : Nat), box0[j]? = some (.blk b c) → b < w.heap.size ∧ (live b0 j → F b = 0))
    (hbj : ∀ (i j b c c' : Nat), box0[i]? = some (.blk b c) → box0[j]? = some (.blk b c') → live b0 i → live b0 j → i = j)
    (hB : BoxesOk w.heap.size w F [] [] box0 b0) {j blk cap : Nat} {k : RK} {cs cs' : List AV} (hj : box0[j]? = some (.blk blk cap)) (hl : b0[j]? = some (.cells k cs))
    (hdr : w.drawn ≤ w'.drawn) (hos : w'.os = w.os) (htape : w'.tape = w.tape) (hou : w'.output = w.output) (hsz : w.heap.size ≤ w'.heap.size) (hk : ∀ k, k < w.heap.size → k ≠ blk → w'.heap[k]? = w.heap[k]?)
    (hx : (∀ y v, Rep w.heap.size w F [] [] box0 y v → Rep w.heap.size w' F [] [] box0 y v) → BoxOk w.heap.size w' F [] [] box0 (.blk blk cap) (.cells k cs'))
    {e : Ending} {v : Value} {r : AV} (hv : e = .returned v) (hr : Rep w.heap.size w' F [] [] box0 r v) (hΦ : Φ r (b0.set j (.cells k cs'))) :
    ∃ (v : Value) (F' : Nat → Nat) (box1 : List BId) (r : AV) (b1 : List ABox), Φ r b1 ∧ e = .returned v ∧ Keep mo (mask b0 box0) w w' ∧ (∀ b, b < w.heap.size → F' b = F b) ∧ (∀ b, w'.heap.size ≤ b → F' b = 0) ∧
      (∀ (j : Nat) d, box0[j]? = some d → box1[j]? = some d) ∧ box1.length = b1.length ∧
      (∀ (j b c : Nat), box0.length ≤ j → box1[j]? = some (.blk b c) → (w.heap.size ≤ b ∨ ∃ i : Nat, live b0 i ∧ box0[i]? = some (.blk b c)) ∧ b < w'.heap.size) ∧
      (∀ (j b c : Nat), box1[j]? = some (.blk b c) → live b1 j → (box0.length ≤ j ∨ live b0 j) → F' b = 0) ∧
      (∀ (i j b c c' : Nat), box1[i]? = some (.blk b c) → box1[j]? = some (.blk b c') → live b1 i → live b1 j → (box0.length ≤ i ∨ live b0 i) → (box0.length ≤ j ∨ live b0 j) → i = j) ∧
      (∀ (j : Nat) d x, box1[j]? = some d → b1[j]? = some x → (box0.length ≤ j ∨ live b0 j) → BoxOk w.heap.size w' F' [] [] box1 d x) ∧ Rep w.heap.size w' F' [] [] box1 r v := by
  have hlive : live b0 j := fun h => by rw [hl] at h; cases h
  have hF0 := (hbi j blk cap hj).2 hlive
  have hjl := getElem?_lt hl
  have L : Later w F [] [] w' F [] [] := by
    refine ⟨fun b i hi => World.cell?_of_block (w := w) (hk b ?_ (fun h => by rw [h, hF0] at hi; omega)), fun _ => Nat.le_refl _, fun k t s n h => by simp at h⟩
    rcases Nat.lt_or_ge b w.heap.size with h | h
    · exact h
    · rw [hout b h] at hi; omega
  have ld : ∀ {i : Nat}, live (b0.set j (.cells k cs')) i ↔ live b0 i := live_set (by simp) hlive
  refine ⟨v, F, box0, r, _, hΦ, hv, ⟨fun _ => hdr, hos, htape, hou, hsz, fun q hq hn => hk q hq (fun h => ?_)⟩, fun _ _ => rfl, fun b hb => hout b (Nat.le_trans hsz hb), fun _ _ h => h, by simpa using hbl,
    fun i b c hi h => (by have := getElem?_lt h; omega), fun i b c hi hli _ => (hbi i b c hi).2 (ld.1 hli), fun i i' b c c' h1 h2 l1 l2 _ _ => hbj i i' b c c' h1 h2 (ld.1 l1) (ld.1 l2), fun i d x hd hx' hin => ?_, hr⟩
  · subst h
    refine hn j cap ?_
    clear hx hΦ hv hr ld L
    induction b0 generalizing box0 j with
    | nil => simp at hl
    | cons x b ih =>
      cases box0 with
      | nil => simp at hj
      | cons d box =>
        cases j with
        | zero =>
          simp at hl hj
          subst hl; subst hj
          simp [mask]
        | succ j =>
          have h1 : b[j]? = some (.cells k cs) := by simpa using hl
          have h2 : box[j]? = some (.blk q cap) := by simpa using hj
          have aux : ∀ (b : List ABox) (box : List BId) (j : Nat), b[j]? = some (.cells k cs) → box[j]? = some (.blk q cap) → (mask b box)[j]? = some (.blk q cap) := by
            intro b
            induction b with
            | nil => intro box j h; simp at h
            | cons x b ih =>
              intro box j h1 h2
              cases box with
              | nil => simp at h2
              | cons d box =>
                cases j with
                | zero => simp at h1 h2; subst h1; subst h2; simp [mask]
                | succ j => cases x <;> simpa [mask] using ih box j (by simpa using h1) (by simpa using h2)
          cases x <;> simpa [mask] using aux b box j h1 h2
  · rw [List.getElem?_set] at hx'
    by_cases hij : j = i
    · subst hij
      rw [if_pos rfl, if_pos hjl] at hx'
      rw [hj] at hd
      cases hx'; cases hd
      exact hx (fun y v h => h.later L (fun _ _ h => h))
    · rw [if_neg hij] at hx'
      refine (hB i d x hd hx').later L (fun _ _ h => h) (fun b c he hnd => ?_)
      subst he
      refine hk b (hbi i b c hd).1 (fun h => ?_)
      subst h
      exact hij (hbj j i b cap c hj hd hlive (fun h => hnd (by rw [hx'] at h; exact Option.some.inj h)))
/-- nothing has been turned -/
theorem gpost_same {w : World} {F : Nat → Nat} {box0 : List BId} {b0 : List ABox} {Φ : AV → List ABox → Prop} (hout : ∀ b, w.heap.size ≤ b → F b = 0) (hbl : box0.length = b0.length)
    (hbi : ∀ (j b c : Nat), box0[j]? = some (.blk b c) → b < w.heap.size ∧ (live b0 j → F b = 0))
    (hbj : ∀ (i j b c c' : Nat), box0[i]? = some (.blk b c) → box0[j]? = some (.blk b c') → live b0 i → live b0 j → i = j)
    (hB : BoxesOk w.heap.size w F [] [] box0 b0) {e : Ending} {v : Value} {r : AV} (hv : e = .returned v) (hr : Rep w.heap.size w F [] [] box0 r v) (hΦ : Φ r b0) :
    ∃ (v : Value) (F' : Nat → Nat) (box1 : List BId) (r : AV) (b1 : List ABox), Φ r b1 ∧ e = .returned v ∧ Keep mo (mask b0 box0) w w ∧ (∀ b, b < w.heap.size → F' b = F b) ∧ (∀ b, w.heap.size ≤ b → F' b = 0) ∧
      (∀ (j : Nat) d, box0[j]? = some d → box1[j]? = some d) ∧ box1.length = b1.length ∧
      (∀ (j b c : Nat), box0.length ≤ j → box1[j]? = some (.blk b c) → (w.heap.size ≤ b ∨ ∃ i : Nat, live b0 i ∧ box0[i]? = some (.blk b c)) ∧ b < w.heap.size) ∧
      (∀ (j b c : Nat), box1[j]? = some (.blk b c) → live b1 j → (box0.length ≤ j ∨ live b0 j) → F' b = 0) ∧
      (∀ (i j b c c' : Nat), box1[i]? = some (.blk b c) → box1[j]? = some (.blk b c') → live b1 i → live b1 j → (box0.length ≤ i ∨ live b0 i) → (box0.length ≤ j ∨ live b0 j) → i = j) ∧
      (∀ (j : Nat) d x, box1[j]? = some d → b1[j]? = some x → (box0.length ≤ j ∨ live b0 j) → BoxOk w.heap.size w F' [] [] box1 d x) ∧ Rep w.heap.size w F' [] [] box1 r v :=
  ⟨v, F, box0, r, b0, hΦ, hv, Keep.refl _ _, fun _ _ => rfl, hout, fun _ _ h => h, hbl, fun i b c hi h => (by have := getElem?_lt h; omega), fun i b c hi hl _ => (hbi i b c hi).2 hl,
    fun i j b c c' h1 h2 l1 l2 _ _ => hbj i j b c c' h1 h2 l1 l2, fun i d x hd hx _ => hB i d x hd hx, hr⟩
theorem putCells_zero {α : Type} [Inhabited α] (enc : α → Value) (d : Array α) (c : Array Value) (h : d.size ≤ c.size) : (putCells enc 0 d c).toList = d.toList.map enc ++ c.toList.drop d.size := by
  apply List.ext_getElem?
  intro i
  rw [Array.getElem?_toList, putCells, Array.getElem?_mapIdx, List.getElem?_append, List.length_map, Array.length_toList]
  by_cases hi : i < d.size
  · have hc : i < c.size := by omega
    simp [hi, hc, getElem!_pos d i hi]
  · rw [if_neg hi, List.getElem?_drop, show d.size + (i - d.size) = i by omega, Array.getElem?_toList]
    cases c[i]? with
    | none => rfl
    | some x => simp [hi]
theorem set_self {α : Type} {l : List α} {j : Nat} {x : α} (h : l[j]? = some x) : l.set j x = l := by
  apply List.ext_getElem?
  intro i
  rw [List.getElem?_set]
  split
  · rename_i hij; subst hij; rw [if_pos (getElem?_lt h), h]
  · rfl
/-- a row of texts -/
theorem texts_of_box {B : Nat} {w : World} {F : Nat → Nat} {box : List BId} {b cap t : Nat} {ss : List Str} (h : BoxOk B w F [] [] box (.blk b cap) (.cells (.row t 1) (ss.map .str))) :
    ∃ c : Array Value, w.heap[b]? = some (.cells c t (0, 0)) ∧ ss.length ≤ c.size ∧ (∀ (i : Nat) s, ss[i]? = some s → c[i]? = some (mkS s)) ∧ c.size = cap ∧ cap ≤ maxLen := by
  obtain ⟨c, t', hh, hle, hr, rfl, hcs, hcm⟩ := h
  rw [List.length_map] at hle
  refine ⟨c, hh, hle, fun i s hi => ?_, by omega, hcm⟩
  have hlt := getElem?_lt hi
  have hx := (hr i (.str s) (by rw [List.getElem?_map, hi]; rfl)).1
  have hc : c[i]? = some (c.getD i undef) := by simp [Array.getD, show i < c.size by omega]
  rw [hc]
  generalize c.getD i undef = u at hx
  cases hx; rfl
theorem texts_both {B : Nat} {w : World} {F : Nat → Nat} {box : List BId} (ss : List Str) : Both (Rep B w F [] [] box) (ss.map .str) (ss.map mkS) := by
  refine ⟨by simp, fun i x y hx hy => ?_⟩
  rw [List.getElem?_map] at hx hy
  cases hi : ss[i]? with
  | none => rw [hi] at hx; cases hx
  | some s => rw [hi] at hx hy; cases hx; cases hy; exact .str s
end Abs
end Go.Proofs.Ytkbblglbbfdnpaa
namespace Go.Proofs
open Go.Shelf
def Try.lays190_ren : Go.Shelf.Ren := ⟨fun | 190 => 122 | 125 => 77 | 258 => 134 | 128 => 116 | 129 => 117 | 302 => 140 | 303 => 141 | 304 => 142 | 305 => 143 | 306 => 144 | 307 => 145 | 308 => 146 | 309 => 147 | 310 => 148 | 333 => 149 | 329 => 129 | 330 => 130 | 334 => 150 | 335 => 151 | 336 => 82 | 344 => 152 | n => n, fun | 31 => 25 | 9 => 9 | 3 => 3 | 46 => 96 | 0 => 0 | 51 => 130 | 53 => 132 | 4 => 4 | 183 => 124 | 182 => 123 | 131 => 98 | 5 => 5 | 218 => 140 | 222 => 144 | 228 => 148 | 229 => 149 | n => n, fun | n => n⟩
theorem Try.lays190 : Go.Proofs.Lays.n190 Try.prog Try.lays190_ren := {
  mixed := by kernel_rfl
  f125 := Try.func77.trans (congrArg some (by kernel_rfl))
  f128 := Try.func116.trans (congrArg some (by kernel_rfl))
  f129 := Try.func117.trans (congrArg some (by kernel_rfl))
  f190 := Try.func122.trans (congrArg some (by kernel_rfl))
  f258 := Try.func134.trans (congrArg some (by kernel_rfl))
  f302 := Try.func140.trans (congrArg some (by kernel_rfl))
  f303 := Try.func141.trans (congrArg some (by kernel_rfl))
  f304 := Try.func142.trans (congrArg some (by kernel_rfl))
  f305 := Try.func143.trans (congrArg some (by kernel_rfl))
  f306 := Try.func144.trans (congrArg some (by kernel_rfl))
  f307 := Try.func145.trans (congrArg some (by kernel_rfl))
  f308 := Try.func146.trans (congrArg some (by kernel_rfl))
  f309 := Try.func147.trans (congrArg some (by kernel_rfl))
  f310 := Try.func148.trans (congrArg some (by kernel_rfl))
  f329 := Try.func129.trans (congrArg some (by kernel_rfl))
  f330 := Try.func130.trans (congrArg some (by kernel_rfl))
  f333 := Try.func149.trans (congrArg some (by kernel_rfl))
  f334 := Try.func150.trans (congrArg some (by kernel_rfl))
  f335 := Try.func151.trans (congrArg some (by kernel_rfl))
  f336 := Try.func82.trans (congrArg some (by kernel_rfl))
  f344 := Try.func152.trans (congrArg some (by kernel_rfl))
  t0 := Try.underlying0
  a0 := Try.isAgg0
  z0 := Try.sizeOf0
  v0 := Try.zeroValue0
  t3 := Try.underlying3
  a3 := Try.isAgg3
  z3 := Try.sizeOf3
  v3 := Try.zeroValue3
  t4 := Try.underlying4
  a4 := Try.isAgg4
  z4 := Try.sizeOf4
  v4 := Try.zeroValue4
  t5 := Try.underlying5
  a5 := Try.isAgg5
  z5 := Try.sizeOf5
  v5 := Try.zeroValue5
  t9 := Try.underlying9
  a9 := Try.isAgg9
  z9 := Try.sizeOf9
  v9 := Try.zeroValue9
  t31 := Try.underlying25
  a31 := Try.isAgg25
  z31 := Try.sizeOf25
  v31 := Try.zeroValue25
  t46 := Try.underlying96
  a46 := Try.isAgg96
  z46 := Try.sizeOf96
  v46 := Try.zeroValue96
  t51 := Try.underlying130
  a51 := Try.isAgg130
  z51 := Try.sizeOf130
  v51 := Try.zeroValue130
  t53 := Try.underlying132
  a53 := Try.isAgg132
  z53 := Try.sizeOf132
  v53 := Try.zeroValue132
  t131 := Try.underlying98
  a131 := Try.isAgg98
  z131 := Try.sizeOf98
  v131 := Try.zeroValue98
  t182 := Try.underlying123
  a182 := Try.isAgg123
  z182 := Try.sizeOf123
  v182 := Try.zeroValue123
  t183 := Try.underlying124
  a183 := Try.isAgg124
  z183 := Try.sizeOf124
  v183 := Try.zeroValue124
  t218 := Try.underlying140
  a218 := Try.isAgg140
  z218 := Try.sizeOf140
  v218 := Try.zeroValue140
  t222 := Try.underlying144
  a222 := Try.isAgg144
  z222 := Try.sizeOf144
  v222 := Try.zeroValue144
  t228 := Try.underlying148
  a228 := Try.isAgg148
  z228 := Try.sizeOf148
  v228 := Try.zeroValue148
  t229 := Try.underlying149
  a229 := Try.isAgg149
  z229 := Try.sizeOf149
  v229 := Try.zeroValue149 }
open Go.Sort Go.RowKit in
theorem Try.slices_Sort_string (blk off cap : Nat) (ss : List (List UInt8)) (w : World) (hH : Holds encStr w blk off ss.toArray) (hblk : blk < w.heap.size) (hsz : ss.length < 4611686018427387904) :
    Calls Try.prog 122 #[.slice (some ⟨blk, off, none⟩) ss.length cap] w fun e w' =>
      e = .returned (.tuple #[]) ∧ ∃ n os, w' = grow (putRow encStr (Sort.ahead w n) blk off (ss.mergeSort fun x y => decide (x ≤ y)).toArray) os := Any.slices_Sort_string Try.lays190 blk off cap ss w hH hblk hsz
def Try.lays194_ren : Go.Shelf.Ren := ⟨fun | 194 => 125 | n => n, fun | 31 => 25 | 9 => 9 | 3 => 3 | 4 => 4 | 0 => 0 | n => n, fun | n => n⟩
theorem Try.lays194 : Go.Proofs.Lays.n194 Try.prog Try.lays194_ren := {
  mixed := by kernel_rfl
  f194 := Try.func125.trans (congrArg some (by kernel_rfl))
  t0 := Try.underlying0
  a0 := Try.isAgg0
  z0 := Try.sizeOf0
  v0 := Try.zeroValue0
  t3 := Try.underlying3
  a3 := Try.isAgg3
  z3 := Try.sizeOf3
  v3 := Try.zeroValue3
  t4 := Try.underlying4
  a4 := Try.isAgg4
  z4 := Try.sizeOf4
  v4 := Try.zeroValue4
  t9 := Try.underlying9
  a9 := Try.isAgg9
  z9 := Try.sizeOf9
  v9 := Try.zeroValue9
  t31 := Try.underlying25
  a31 := Try.isAgg25
  z31 := Try.sizeOf25
  v31 := Try.zeroValue25 }
open Go.RowKit Go.Lib Go.Sort in
theorem Try.slices_Compact_string (blk off cap : Nat) (zs : List (List UInt8)) (w : World) (hH : Holds encStr w blk off zs.toArray) (hsz : zs.length ≤ 9223372036854775807) (hcap : zs.length ≤ cap) :
    Calls Try.prog 125 #[.slice (some ⟨blk, off, none⟩) zs.length cap] w fun e w' => e = .returned (.slice (some ⟨blk, off, none⟩) (Lib.compact zs).length cap) ∧ ∃ q, w' = putRow encStr (Sort.ahead w q) blk off (Lib.compact zs ++ List.replicate (zs.length - (Lib.compact zs).length) []).toArray := Any.slices_Compact_string Try.lays194 blk off cap zs w hH hsz hcap
open Go.RowKit Go.Lib Go.Sort in
theorem Try.slices_Compact_string_empty (a : Option Addr) (cap : Nat) (w : World) :
    Calls Try.prog 125 #[.slice a 0 cap] w fun e w' => e = .returned (.slice a 0 cap) ∧ w' = w := Any.slices_Compact_string_empty Try.lays194 a cap w
open Go.RowKit Go.Sort in
theorem Try.slices_Sort_string_none (p : Option Addr) (cap : Nat) (w : World) :
    Calls Try.prog 122 #[.slice p 0 cap] w fun e w' => e = .returned (.tuple #[]) ∧ w' = w := Any.slices_Sort_string_none Try.lays190 p cap w
end Go.Proofs
namespace Go.Proofs.Ytkbblglbbfdnpaa
open Abs Go.RowKit Go.Sort
/-- ascending, byte by byte -/
def srt (ss : List Str) : List Str := ss.mergeSort fun x y => decide (x ≤ y)
theorem compact_nil : Lib.compact ([] : List Str) = [] := rfl
theorem compact_len (ss : List Str) : (Lib.compact ss).length ≤ ss.length := by
  rw [Lib.compact, Lib.compactUpTo, List.length_map]
  exact Nat.le_trans (List.length_filter_le _ _) (by simp)
theorem holds_texts {w : World} {b t : Nat} {ss : List Str} {c : Array Value} (hh : w.heap[b]? = some (.cells c t (0, 0))) (hc : ∀ (i : Nat) s, ss[i]? = some s → c[i]? = some (mkS s)) : Holds encStr w b 0 ss.toArray := by
  intro i hi
  have hi' : i < ss.length := by simpa using hi
  have h1 := hc i _ (List.getElem?_eq_getElem hi')
  have e1 : ss.toArray[i]! = ss[i] := by simp [hi']
  rw [e1, Nat.zero_add]
  refine ⟨by rw [cell_of_row w b i c t (0, 0) hh, h1]; rfl, ?_⟩
  simp [World.frozen?, hh]
theorem slSort.ctx (b : List ABox) (j : Nat) (ss : List Str) (hj : b[j]? = some (.cells (.row 9 1) (ss.map .str))) (hn : ss.length ≤ 1099511627776) :
    slSort.Ctx b [.bsl j ss.length] (fun r b1 => r = .tup [] ∧ b1 = b.set j (.cells (.row 9 1) ((srt ss).map .str))) := by
  unfold slSort.Ctx
  rw [Ctx_eq]
  refine ⟨by kernel_rfl, fun w F vs box0 _ hout hbl hbi hbj hB hargs => ?_⟩
  obtain ⟨v0, rfl⟩ : ∃ v0, vs = #[v0] := by
    have := hargs.1
    match vs, this with
    | ⟨[a]⟩, _ => exact ⟨a, rfl⟩
  obtain ⟨h0, _⟩ := Both.cons.1 hargs
  rcases h0.bsl_inv with ⟨bl, cap, hb, hcap, rfl⟩ | ⟨hb, hz, rfl⟩
  · obtain ⟨c, hh, hle, hc, hcs, hcm⟩ := texts_of_box (hB j _ _ hb hj)
    refine (Try.slices_Sort_string bl 0 cap ss w (holds_texts hh hc) (hbi j bl cap hb).1 (by omega)).mono ?_
    rintro e w' ⟨rfl, n, os, hw⟩
    have hlen : (srt ss).length = ss.length := List.length_mergeSort _
    have hh' : w'.heap[bl]? = some (.cells (putCells encStr 0 (srt ss).toArray c) 9 (0, 0)) := by
      rw [hw, heap_grow _ _ _ (by simpa using (hbi j bl cap hb).1)]
      exact heap_putRow encStr (Sort.ahead w n) bl 0 (srt ss).toArray c _ (0, 0) hh
    have hk : ∀ k, k < w.heap.size → k ≠ bl → w'.heap[k]? = w.heap[k]? := fun k hk hkb => by
      rw [hw, heap_grow _ _ _ (by simpa using hk), heap_putRow_other _ _ _ _ _ _ hkb]; rfl
    refine gpost_row (w' := w') (Φ := fun r b1 => r = .tup [] ∧ b1 = b.set j (.cells (.row 9 1) ((srt ss).map .str))) (v := .tuple #[]) (r := .tup []) hout hbl hbi hbj hB hb hj
      (by rw [hw]; simp [grow, putRow, mapBlock, Sort.ahead]) (by rw [hw]; rfl) (by rw [hw]; rfl) (by rw [hw]; rfl) (by rw [hw]; simp) hk (fun _ => ?_) rfl (.tup [] #[] rfl (by simp)) ⟨rfl, rfl⟩
    refine boxOk_row (c := putCells encStr 0 (srt ss).toArray c) (vals := (srt ss).map mkS) (rest := c.toList.drop (srt ss).length) hh' ?_ (texts_both _) (fun u hu => ?_) ?_ hcm
    · rw [putCells_zero _ _ _ (by simp [hlen]; exact hle)]; simp; intro a _; rfl
    · obtain ⟨s, _, rfl⟩ := List.mem_map.1 hu; rfl
    · simp [hlen]; omega
  · have h0 : ss = [] := List.eq_nil_of_length_eq_zero hz
    subst h0
    refine (Try.slices_Sort_string_none none 0 w).mono ?_
    rintro e w' ⟨rfl, rfl⟩
    exact gpost_same hout hbl hbi hbj hB rfl (.tup [] #[] rfl (by simp)) ⟨rfl, by rw [show srt [] = [] by simp [srt], set_self hj]⟩
theorem slCompact.ctx (b : List ABox) (j : Nat) (ss : List Str) (hj : b[j]? = some (.cells (.row 9 1) (ss.map .str))) (hn : ss.length ≤ 1099511627776) :
    slCompact.Ctx b [.bsl j ss.length] (fun r b1 => r = .bsl j (Lib.compact ss).length ∧ b1 = b.set j (.cells (.row 9 1) ((Lib.compact ss).map .str))) := by
  unfold slCompact.Ctx
  rw [Ctx_eq]
  refine ⟨by kernel_rfl, fun w F vs box0 _ hout hbl hbi hbj hB hargs => ?_⟩
  obtain ⟨v0, rfl⟩ : ∃ v0, vs = #[v0] := by
    have := hargs.1
    match vs, this with
    | ⟨[a]⟩, _ => exact ⟨a, rfl⟩
  obtain ⟨h0, _⟩ := Both.cons.1 hargs
  rcases h0.bsl_inv with ⟨bl, cap, hb, hcap, rfl⟩ | ⟨hb, hz, rfl⟩
  · obtain ⟨c, hh, hle, hc, hcs, hcm⟩ := texts_of_box (hB j _ _ hb hj)
    have hcl := compact_len ss
    refine (Try.slices_Compact_string bl 0 cap ss w (holds_texts hh hc) (by omega) hcap).mono ?_
    rintro e w' ⟨rfl, n, hw⟩
    have hh' : w'.heap[bl]? = some (.cells (putCells encStr 0 (Lib.compact ss ++ List.replicate (ss.length - (Lib.compact ss).length) []).toArray c) 9 (0, 0)) := by
      rw [hw]; exact heap_putRow encStr (Sort.ahead w n) bl 0 _ c _ (0, 0) hh
    have hk : ∀ k, k < w.heap.size → k ≠ bl → w'.heap[k]? = w.heap[k]? := fun k hk hkb => by
      rw [hw, heap_putRow_other _ _ _ _ _ _ hkb]; rfl
    refine gpost_row (w' := w') (Φ := fun r b1 => r = .bsl j (Lib.compact ss).length ∧ b1 = b.set j (.cells (.row 9 1) ((Lib.compact ss).map .str))) (r := .bsl j (Lib.compact ss).length) hout hbl hbi hbj hB hb hj
      (by rw [hw]; simp [putRow, mapBlock, Sort.ahead]) (by rw [hw]; rfl) (by rw [hw]; rfl) (by rw [hw]; rfl) (by rw [hw]; simp) hk (fun _ => ?_) rfl (.bsl j _ bl cap hb (by omega)) ⟨rfl, rfl⟩
    refine boxOk_row (vals := (Lib.compact ss).map mkS) (rest := List.replicate (ss.length - (Lib.compact ss).length) (mkS []) ++ c.toList.drop ss.length) hh' ?_ (texts_both _) (fun u hu => ?_) ?_ hcm
    · rw [putCells_zero _ _ _ (by simp; omega)]
      simp only [List.map_append, List.map_replicate, List.append_assoc, List.size_toArray, List.length_append, List.length_replicate, Nat.add_sub_cancel' hcl]
      rfl
    · obtain ⟨s, _, rfl⟩ := List.mem_map.1 hu; rfl
    · simp; omega
  · have h0 : ss = [] := List.eq_nil_of_length_eq_zero hz
    subst h0
    refine (Try.slices_Compact_string_empty none 0 w).mono ?_
    rintro e w' ⟨rfl, rfl⟩
    exact gpost_same hout hbl hbi hbj hB rfl (.bnil j hb) ⟨by rw [compact_nil]; rfl, by rw [compact_nil, set_self hj]⟩
end Go.Proofs.Ytkbblglbbfdnpaa
namespace Go.Proofs.Ytkbblglbbfdnpaa
open Abs
structure STO {α : Type} (lt : α → α → Bool) : Prop where
  irrefl : ∀ x, lt x x = false
  trans : ∀ x y z, lt x y = true → lt y z = true → lt x z = true
  tri : ∀ x y, lt x y = false → lt y x = false → x = y
section
variable {α : Type} {lt : α → α → Bool}
theorem STO.asymm (h : STO lt) {x y : α} (hxy : lt x y = true) : lt y x = false := by
  cases hyx : lt y x with
  | false => rfl
  | true => have := h.trans x y x hxy hyx; rw [h.irrefl] at this; cases this
def Asc (lt : α → α → Bool) (l : List α) : Prop := l.Pairwise fun x y => lt x y = true
/-- ascending lists with the same members are one -/
theorem Asc.unique (h : STO lt) : ∀ {l m : List α}, Asc lt l → Asc lt m → (∀ x, x ∈ l ↔ x ∈ m) → l = m
  | [], [], _, _, _ => rfl
  | [], y :: m, _, _, hm => absurd ((hm y).2 (by simp)) (by simp)
  | x :: l, [], _, _, hm => absurd ((hm x).1 (by simp)) (by simp)
  | x :: l, y :: m, hl, hr, hm => by
    obtain ⟨h1, h2⟩ := List.pairwise_cons.1 hl
    obtain ⟨h3, h4⟩ := List.pairwise_cons.1 hr
    have hxy : x = y := by
      rcases List.mem_cons.1 ((hm x).1 (by simp)) with e | hx
      · exact e
      · rcases List.mem_cons.1 ((hm y).2 (by simp)) with e | hy
        · exact e.symm
        · have := h.asymm (h3 x hx); rw [h1 y hy] at this; cases this
    subst hxy
    congr 1
    refine Asc.unique h h2 h4 fun z => ⟨fun hz => ?_, fun hz => ?_⟩
    · rcases List.mem_cons.1 ((hm z).1 (by simp [hz])) with e | hz'
      · subst e; have := h1 z hz; rw [h.irrefl] at this; cases this
      · exact hz'
    · rcases List.mem_cons.1 ((hm z).2 (by simp [hz])) with e | hz'
      · subst e; have := h3 z hz; rw [h.irrefl] at this; cases this
      · exact hz'
/-- put in at its place, unless it is there -/
def ins (lt : α → α → Bool) (s : α) : Bool → List α → List α
  | d, [] => if d then [] else [s]
  | true, x :: l => x :: ins lt s true l
  | false, x :: l => if lt x s then x :: ins lt s false l else if lt s x then s :: x :: ins lt s true l else x :: ins lt s true l
theorem ins_true (s : α) : ∀ l, ins lt s true l = l
  | [] => rfl
  | x :: l => by rw [ins, ins_true s l]
theorem ins_mem (h : STO lt) (s : α) : ∀ l x, x ∈ ins lt s false l ↔ x = s ∨ x ∈ l
  | [], x => by simp [ins]
  | y :: l, x => by
    rw [ins]
    split
    · rw [List.mem_cons, ins_mem h s l x, List.mem_cons]
      exact ⟨fun h => by rcases h with h | h | h <;> simp [h], fun h => by rcases h with h | h | h <;> simp [h]⟩
    · rename_i h1
      split
      · rw [ins_true]; simp
      · rename_i h2
        rw [ins_true]
        have : y = s := h.tri y s (by simpa using h1) (by simpa using h2)
        subst this; simp
theorem ins_asc (h : STO lt) (s : α) : ∀ l, Asc lt l → Asc lt (ins lt s false l)
  | [], _ => by simp [ins, Asc]
  | y :: l, hl => by
    obtain ⟨h1, h2⟩ := List.pairwise_cons.1 hl
    rw [ins]
    split
    · rename_i hy
      refine List.pairwise_cons.2 ⟨fun z hz => ?_, ins_asc h s l h2⟩
      rcases (ins_mem h s l z).1 hz with rfl | hz
      · exact hy
      · exact h1 z hz
    · split
      · rename_i hs
        rw [ins_true]
        refine List.pairwise_cons.2 ⟨fun z hz => ?_, hl⟩
        rcases List.mem_cons.1 hz with rfl | hz
        · exact hs
        · exact h.trans _ _ _ hs (h1 z hz)
      · rw [ins_true]; exact hl
theorem ins_len (s : α) : ∀ (d : Bool) (l : List α), (ins lt s d l).length ≤ l.length + 1
  | true, l => by rw [ins_true]; omega
  | false, [] => by simp [ins]
  | false, y :: l => by
    have := ins_len s false l
    rw [ins]
    split
    · simp only [List.length_cons]; omega
    · split <;> simp [ins_true]
/-- one by one -/
def insAll (lt : α → α → Bool) (l : List α) : List α := l.foldl (fun a s => ins lt s false a) []
theorem insAll_asc (h : STO lt) (l : List α) : Asc lt (insAll lt l) := by
  have : ∀ (l a : List α), Asc lt a → Asc lt (l.foldl (fun a s => ins lt s false a) a) := fun l => by
    induction l with
    | nil => exact fun a ha => ha
    | cons x l ih => exact fun a ha => ih _ (ins_asc h x a ha)
  exact this l [] .nil
theorem insAll_mem (h : STO lt) (l : List α) (x : α) : x ∈ insAll lt l ↔ x ∈ l := by
  have : ∀ (l a : List α), x ∈ l.foldl (fun a s => ins lt s false a) a ↔ x ∈ l ∨ x ∈ a := fun l => by
    induction l with
    | nil => simp
    | cons y l ih =>
      intro a
      rw [List.foldl_cons, ih, ins_mem h, List.mem_cons]
      exact ⟨fun h => by rcases h with h | h | h <;> simp [h], fun h => by rcases h with (h | h) | h <;> simp [h]⟩
  unfold insAll; simpa using this l []
theorem insAll_len (l : List α) : (insAll lt l).length ≤ l.length := by
  have : ∀ (l a : List α), (l.foldl (fun a s => ins lt s false a) a).length ≤ a.length + l.length := fun l => by
    induction l with
    | nil => simp
    | cons x l ih => intro a; have := ih (ins lt x false a); have := ins_len (lt := lt) x false a; simp only [List.foldl_cons, List.length_cons] at *; omega
  unfold insAll; simpa using this l []
variable [Inhabited α] [DecidableEq α]
/-- what is kept of a sorted list ascends, and nothing is lost -/
theorem compact_asc (h : STO lt) (l : List α) (hs : l.Pairwise fun x y => lt y x = false) : Asc lt (Lib.compact l) ∧ ∀ x, x ∈ Lib.compact l ↔ x ∈ l := by
  have key : ∀ m, m ≤ l.length → Asc lt (Lib.compactUpTo l.toArray m) ∧ (∀ x, x ∈ Lib.compactUpTo l.toArray m ↔ x ∈ l.take m) := by
    intro m
    induction m with
    | zero => intro _; simp [Lib.compactUpTo, Asc]
    | succ m ih =>
      intro hm
      obtain ⟨i1, i2⟩ := ih (by omega)
      have hml : m < l.length := by omega
      have hgm : l.toArray[m]! = l[m] := by simp [hml]
      have htake : l.take (m + 1) = l.take m ++ [l[m]] := by rw [List.take_succ_eq_append_getElem hml]
      rw [Lib.compactUpTo_succ, htake]
      by_cases hk : Lib.keeps l.toArray m = true
      · rw [if_pos hk, hgm]
        refine ⟨List.pairwise_append.2 ⟨i1, by simp, fun x hx y hy => ?_⟩, fun x => by rw [List.mem_append, List.mem_append, i2]⟩
        simp only [List.mem_singleton] at hy; subst hy
        have hx' := (i2 x).1 hx
        obtain ⟨i, hi, hix⟩ := List.getElem_of_mem hx'
        have him : i < m := by simp at hi; omega
        have hil : i < l.length := by omega
        have hxl : l[i] = x := by rw [← hix]; simp
        have hpw := List.pairwise_iff_getElem.1 hs
        -- the one before is another one
        have hne : l[m] ≠ l[m - 1] := by
          simp only [Lib.keeps, decide_eq_true_eq] at hk
          rcases hk with hk | hk
          · omega
          · rw [hgm] at hk
            have : l.toArray[m - 1]! = l[m - 1] := by simp [show m - 1 < l.length by omega]
            rwa [this] at hk
        have hle1 : lt l[m] l[m - 1] = false := hpw (m - 1) m (by omega) hml (by omega)
        have hlt1 : lt l[m - 1] l[m] = true := by
          cases hc : lt l[m - 1] l[m] with
          | true => rfl
          | false => exact absurd (h.tri _ _ hle1 hc) hne
        by_cases him1 : i = m - 1
        · subst him1; rw [← hxl]; exact hlt1
        · have hle2 : lt l[m - 1] l[i] = false := hpw i (m - 1) hil (by omega) (by omega)
          cases hc : lt x l[m] with
          | true => rfl
          | false =>
            exfalso
            rw [← hxl] at hc
            cases hd : lt l[i] l[m - 1] with
            | true => have := h.trans _ _ _ hd hlt1; rw [this] at hc; cases hc
            | false => have := h.tri _ _ hd hle2; rw [this, hlt1] at hc; cases hc
      · rw [if_neg hk, List.append_nil]
        refine ⟨i1, fun x => ?_⟩
        rw [List.mem_append, i2, List.mem_singleton]
        refine ⟨.inl, fun hx => ?_⟩
        rcases hx with hx | rfl
        · exact hx
        · simp only [Lib.keeps, decide_eq_true_eq, not_or, Decidable.not_not] at hk
          have h2 : l.toArray[m - 1]! = l[m - 1] := by simp [show m - 1 < l.length by omega]
          rw [hgm, h2] at hk
          rw [hk.2]
          have h3 : m - 1 < (l.take m).length := by simp; omega
          have h4 : (l.take m)[m - 1] = l[m - 1] := by simp
          rw [← h4]; exact List.getElem_mem h3
  have := key l.length (Nat.le_refl _)
  rw [List.take_length] at this
  exact this
end
def blt (a b : Str) : Bool := Op.bytesLess a b
theorem blt_eq : ∀ a b : Str, blt a b = decide (a < b)
  | _, [] => by simp [blt, Op.bytesLess]
  | [], _ :: _ => by simp [blt, Op.bytesLess]
  | a :: x, b :: y => by
    have ih := blt_eq x y
    rw [blt] at ih ⊢
    rw [Op.bytesLess, ih]
    rw [Bool.eq_iff_iff]
    simp only [Bool.or_eq_true, Bool.and_eq_true, decide_eq_true_eq, beq_iff_eq]
    rw [List.cons_lt_cons_iff]
theorem blt_sto : STO blt where
  irrefl x := by rw [blt_eq]; simp [List.lt_irrefl]
  trans x y z h1 h2 := by rw [blt_eq, decide_eq_true_eq] at *; exact List.lt_trans h1 h2
  tri x y h1 h2 := by
    rw [blt_eq, decide_eq_false_iff_not] at *
    exact List.le_antisymm (List.not_lt.1 h2) (List.not_lt.1 h1)
structure CMP {α : Type} (c : α → α → Int) : Prop where
  zero : ∀ x y, c x y = 0 ↔ x = y
  anti : ∀ x y, c x y < 0 ↔ 0 < c y x
  trans : ∀ x y z, c x y < 0 → c y z < 0 → c x z < 0
theorem scmp_cmp : CMP scmp where
  zero _ _ := scmp_zero
  anti x y := by
    have h1 := scmp_zero (a := x) (b := y)
    unfold scmp at h1 ⊢
    have b1 := @STO.asymm _ _ blt_sto x y
    have b2 := blt_sto.tri x y
    unfold blt at b1 b2
    by_cases e : x = y
    · subst e; simp [bl_irrefl]
    · have e' : ¬ y = x := fun h => e h.symm
      cases hx : Op.bytesLess x y <;> cases hy : Op.bytesLess y x <;> simp [e, e']
      · exact e (b2 hx hy)
      · have := b1 hx; rw [this] at hy; cases hy
  trans x y z h1 h2 := by
    have b := blt_sto.trans x y z
    unfold blt at b
    unfold scmp at *
    split at h1
    · rename_i hx
      split at h2
      · rename_i hy; rw [if_pos (b hx hy)]; omega
      · split at h2 <;> omega
    · split at h1 <;> omega
theorem cmpA_cmp : CMP cmpA where
  zero x y := by
    unfold cmpA
    by_cases hx : numF x = true <;> by_cases hy : numF y = true
    · rw [parseF_yes hx, parseF_yes hy]
      simp only [if_true]
      unfold icmp
      have ex : fmt (valA 0 x) = x := fmt_of_isNum (by unfold numF at hx; simp at hx; exact hx.1)
      have ey : fmt (valA 0 y) = y := fmt_of_isNum (by unfold numF at hy; simp at hy; exact hy.1)
      constructor
      · intro h
        split at h
        · omega
        · split at h
          · rename_i h2; rw [← ex, ← ey, show valA 0 x = valA 0 y by omega]
          · omega
      · rintro rfl; simp
    · rw [parseF_yes hx, parseF_no (by simpa using hy)]
      simp only [if_true]
      refine ⟨fun h => by simp at h, fun h => ?_⟩
      subst h; exact absurd hx hy
    · rw [parseF_no (by simpa using hx), parseF_yes hy]
      simp only [if_true]
      refine ⟨fun h => by simp at h, fun h => ?_⟩
      subst h; exact absurd hy hx
    · rw [parseF_no (by simpa using hx), parseF_no (by simpa using hy)]
      exact scmp_zero
  anti x y := by
    unfold cmpA
    have hs := scmp_cmp.anti x y
    cases hx : (parseF x).2 <;> cases hy : (parseF y).2 <;> simp only [if_true, Bool.false_eq_true, if_false]
    · exact hs
    · omega
    · omega
    · unfold icmp; split <;> split <;> (try split) <;> omega
  trans x y z := by
    unfold cmpA
    have hs := scmp_cmp.trans x y z
    cases hx : (parseF x).2 <;> cases hy : (parseF y).2 <;> cases hz : (parseF z).2 <;> simp only [if_true, Bool.false_eq_true, if_false]
    · exact hs
    all_goals (try (intro h1 h2; omega))
    intro h1 h2
    unfold icmp at *
    split at h1
    · split at h2
      · rw [if_pos (by omega)]; omega
      · split at h2 <;> omega
    · split at h1 <;> omega
theorem cmpArgs_cmp : CMP cmpArgs where
  zero x y := by
    induction x generalizing y with
    | nil => cases y <;> simp [cmpArgs]
    | cons a x ih =>
      cases y with
      | nil => simp [cmpArgs]
      | cons b y =>
        rw [cmpArgs]
        have hz := cmpA_cmp.zero a b
        split
        · rename_i h; exact ⟨fun e => absurd e h, fun e => absurd (hz.2 (List.cons.inj e).1) h⟩
        · rename_i h
          have e : a = b := hz.1 (Decidable.not_not.1 h)
          subst e
          rw [ih]; simp
  anti x y := by
    induction x generalizing y with
    | nil => cases y <;> simp [cmpArgs]
    | cons a x ih =>
      cases y with
      | nil => simp [cmpArgs]
      | cons b y =>
        rw [cmpArgs, cmpArgs]
        have hz := cmpA_cmp.zero a b
        have hz' := cmpA_cmp.zero b a
        have ha := cmpA_cmp.anti a b
        by_cases h : a = b
        · subst h
          rw [if_neg (by simp [hz]), if_neg (by simp [hz])]; exact ih y
        · rw [if_pos (fun e => h (hz.1 e)), if_pos (fun e => h (hz'.1 e).symm)]; exact ha
  trans x y z := by
    induction x generalizing y z with
    | nil =>
      cases y <;> cases z <;> simp [cmpArgs]
    | cons a x ih =>
      cases y with
      | nil => simp [cmpArgs]
      | cons b y =>
        cases z with
        | nil => simp [cmpArgs]
        | cons c z =>
          rw [cmpArgs, cmpArgs, cmpArgs]
          have hz := fun a b => cmpA_cmp.zero a b
          have ht := cmpA_cmp.trans a b c
          by_cases h1 : a = b
          · subst h1
            rw [if_neg (by simp [hz])]
            by_cases h2 : a = c
            · subst h2
              rw [if_neg (by simp [hz]), if_neg (by simp [hz])]; exact ih y z
            · rw [if_pos (fun e => h2 ((hz _ _).1 e)), if_pos (fun e => h2 ((hz _ _).1 e))]; exact fun _ h => h
          · rw [if_pos (fun e => h1 ((hz _ _).1 e))]
            by_cases h2 : b = c
            · subst h2
              rw [if_neg (by simp [hz]), if_pos (fun e => h1 ((hz _ _).1 e))]; exact fun h _ => h
            · rw [if_pos (fun e => h2 ((hz _ _).1 e))]
              intro h3 h4
              have h5 := ht h3 h4
              rw [if_pos (by omega)]; exact h5
theorem cmpF_cmp : CMP cmpF where
  zero x y := by
    unfold cmpF
    split
    · rename_i h; rw [cmpArgs_cmp.zero]; exact ⟨fun e => Prod.ext h e, fun e => by rw [e]⟩
    · rename_i h; exact ⟨fun e => absurd (scmp_zero.1 e) h, fun e => absurd (by rw [e]) h⟩
  anti x y := by
    unfold cmpF
    by_cases h : x.1 = y.1
    · rw [if_pos h, if_pos h.symm]; exact cmpArgs_cmp.anti _ _
    · rw [if_neg h, if_neg (fun e => h e.symm)]; exact scmp_cmp.anti _ _
  trans x y z := by
    unfold cmpF
    by_cases h1 : x.1 = y.1 <;> by_cases h2 : y.1 = z.1
    · rw [if_pos h1, if_pos h2, if_pos (h1.trans h2)]; exact cmpArgs_cmp.trans _ _ _
    · rw [if_pos h1, if_neg h2, if_neg (fun e => h2 (h1.symm.trans e)), h1]; exact fun _ h => h
    · rw [if_neg h1, if_pos h2, if_neg (fun e => h1 (e.trans h2.symm)), h2]; exact fun h _ => h
    · rw [if_neg h1, if_neg h2]
      intro h3 h4
      have h5 := scmp_cmp.trans _ _ _ h3 h4
      have h6 : x.1 ≠ z.1 := fun e => by have := scmp_zero.2 e; omega
      rw [if_neg h6]; exact h5
end Go.Proofs.Ytkbblglbbfdnpaa
namespace Go.Proofs.Ytkbblglbbfdnpaa
open Abs
theorem srt_asc (l : List Str) : (srt l).Pairwise fun x y => blt y x = false := by
  have h := List.pairwise_mergeSort (le := fun x y : Str => decide (x ≤ y)) (fun a b c h1 h2 => by simp at *; exact List.le_trans h1 h2) (fun a b => by simp; exact List.le_total a b) l
  exact h.imp fun {x y} hxy => by rw [blt_eq, decide_eq_false_iff_not]; simpa using hxy
theorem srt_mem (l : List Str) (x : Str) : x ∈ srt l ↔ x ∈ l := List.mem_mergeSort
theorem compact_srt (l : List Str) : Lib.compact (srt l) = insAll blt l := by
  obtain ⟨h1, h2⟩ := compact_asc blt_sto (srt l) (srt_asc l)
  exact Asc.unique blt_sto h1 (insAll_asc blt_sto l) fun x => by rw [h2, srt_mem, insAll_mem blt_sto]
theorem slClone.own (l : List Str) (h : l.length ≤ 1048576) : slClone.Own [.list none (strs l)] (strT l) :=
  (slClone.ret l h).own [0] (.l _ _ _ 0 (strs l) (by simp) (by simp) (fun e he => by obtain ⟨s, _, rfl⟩ := List.mem_map.1 he; rfl) (strs_sz _) (own_strs _ l) .nil) (by simp)
theorem pSortedTexts.ret (l : List Str) (h : l.length ≤ 1048576) : pSortedTexts.Ret [.list none (strs l)] (.list (some 0) (strs (insAll blt l))) [(9, 1, (insAll blt l).length)] := by
  refine pSortedTexts.of rfl ?_
  conv => whnf
  refine ACall.unb [.list none (strs l)] (strT l) (slClone.own l h) (.cons (SeesB.of0 (Sees0.olds _ _)) .nil) ?_
  rw [gv_strT, gb_strT]
  conv => whnf
  refine ACall.ctx rfl _ _ _ (slSort.ctx [.cells (.row 9 1) (l.map .str)] 0 l rfl (by omega)) (.lend _ _ noTk_texts .nil) (.cons (.inl ⟨rfl, rfl⟩) .nil) ?_
  rintro r b1 ⟨rfl, rfl⟩
  have hlen : (srt l).length = l.length := List.length_mergeSort _
  conv => whnf
  refine ACall.ctx rfl _ _ _ (slCompact.ctx [.cells (.row 9 1) ((srt l).map .str)] 0 (srt l) rfl (by omega)) (.lend _ _ noTk_texts .nil) (.cons (.inl ⟨by rw [hlen]; rfl, rfl⟩) .nil) ?_
  rintro r b1 ⟨rfl, rfl⟩
  rw [compact_srt]
  conv => whnf
  refine FreezeD.flat (Freeze.mk (strs (insAll blt l)) ((insAll blt l).map .str) 9 1 rfl (strs_flatten _).symm (by simp) (strs_sz _) (fun c hc => ?_) ?_)
  · obtain ⟨s, _, rfl⟩ := List.mem_map.1 hc; rfl
  · exact Final.mk rfl rfl
end Go.Proofs.Ytkbblglbbfdnpaa
namespace Go.Proofs.Ytkbblglbbfdnpaa
open Abs
/-- the variables among some texts -/
def vs (l : List Str) : List Str := l.filter varF
theorem vs_yes {l : List Str} {i : Nat} (hi : i < l.length) (h : varF (l.getD i []) = true) : vs (l.take (i + 1)) = vs (l.take i) ++ [l.getD i []] := by
  rw [take_succ' [] hi, vs, List.filter_append]
  simp only [List.filter_cons, h]; simp [vs]
theorem vs_no {l : List Str} {i : Nat} (hi : i < l.length) (h : varF (l.getD i []) = false) : vs (l.take (i + 1)) = vs (l.take i) := by
  rw [take_succ' [] hi, vs, List.filter_append]
  simp only [List.filter_cons, h]; simp [vs]
theorem vs_len (l : List Str) (i : Nat) : (vs (l.take i)).length ≤ l.length := by
  refine Nat.le_trans (List.length_filter_le _ _) ?_
  rw [List.length_take]; omega
theorem vs_sz : ∀ l : List Str, (vs l).length ≤ listSize Ty.str l
  | [] => Nat.le_refl _
  | x :: l => by
    have ih := vs_sz l
    have e : listSize Ty.str (x :: l) = x.length + listSize Ty.str l := rfl
    rw [vs, List.filter_cons, e]
    split
    · rename_i hv
      have : 1 < x.length := by
        unfold varF at hv
        simp only [Bool.and_eq_true, decide_eq_true_eq] at hv
        omega
      rw [List.length_cons]
      have ih : (List.filter varF l).length ≤ _ := ih
      omega
    · have ih : (List.filter varF l).length ≤ _ := ih
      omega
theorem pvarsAmong.ret (l : List Str) (h : l.length ≤ 2097152) (hz : listSize Ty.str l ≤ 1048576) : pvarsAmong.Ret [.list none (strs l)] (.list (some 1) (strs (insAll blt (vs l)))) [(9, 1, (vs l).length), (9, 1, (insAll blt (vs l)).length)] := by
  refine pvarsAmong.of rfl ?_
  repeat' first
    | (conv => whnf
       first | refine Need.mk rfl ?_ | refine LitO.own rfl ?_)
  refine ALoop.mk Nat (fun i => ⟨[(0, .list none (strs l)), (3, .list (some 0) (strs (vs (l.take i)))), (7, .list none (strs l)), (8, .val (.int .i64 l.length)), (9, .val (.int .i64 i))], [], [(9, 1, (vs (l.take i)).length)]⟩) (fun i => i ≤ l.length) (fun i => l.length - i) ⟨0, Nat.zero_le _, ?_⟩ (fun i hi => ?_)
  · repeat' first
      | exact trivial | refine Weak.mk ?_ ?_ ?_ ?_ (Or.inl (Nat.le_of_ble_eq_true rfl)) | refine And.intro ?_ ?_ | with_reducible rfl | exact Nat.le_of_ble_eq_true rfl | refine fr1 ?_ | refine AV.int_congr ?_ | refine AV.list_congr ?_ | (apply rfl)
    simp
  have hlen := vs_len l i
  have hvz := Nat.le_trans (vs_sz (l.take i)) (listSize_take_le Ty.str l i)
  repeat' first
    | (conv => whnf
       first | refine Need.mk rfl ?_ | refine Need.mk ?_ ?_ | refine Ix.strsF rfl ?_ | refine Fork.dec (fun _ => ?_) (fun _ => ?_) | refine Fork.mk (fun _ => ?_) (fun _ => ?_) | refine Round.mk ?_ | refine Lit.read rfl ?_ | refine LitO.own rfl ?_ | refine Final.mk ?_ ?_ | refine ACall.scalA _ _ (pIsVar.ret _ ?_) rfl ?_ | refine ACall.mkStrs _ _ (pSortedTexts.ret _ ?_) (by repeat' first | exact SeesL.nil | refine SeesL.cons ?_ ?_ | exact SeesB.of0 (Sees0.val _) | exact SeesB.of0 (Sees0.str _) | exact SeesB.of0 (Sees0.olds _ _) | exact SeesB.of0 (Sees0.old _) | exact SeesB.of0 (Sees0.oldagg _) | exact SeesB.of0 Sees0.nil | exact Sees0.val _ | exact Sees0.str _ | exact Sees0.olds _ _ | exact Sees0.old _ | exact Sees0.oldagg _ | exact Sees0.nil | exact SeesB.of0 (Sees0.any _) | assumption | exact sees_gv _ _ _ (by assumption) (by first | assumption | exact BoxIn.last _ _ | exact BoxIn.more (BoxIn.last _ _) _) | refine SeesB.agg ?_ | refine Sees0.agg ?_ | exact SeesB.of0 (Sees0.clo SeesL.nil SeesL.nil) | exact Sees0.clo SeesL.nil SeesL.nil | exact SeesB.of0 (Sees0.list rfl) | exact Sees0.list rfl) ?_)
    | refine AV.list_congr ?_ | refine fr2 ?_ ?_
  all_goals try simp only [length_rows, length_strs, length_oldLL, List.length_map, Int.toNat_natCast] at *
  · have := str_le (l := l) (i := i) (by omega); omega
  · intro c hc; rw [List.mem_singleton.1 hc]; rfl
  · simp only [List.length_singleton]; omega
  · rename_i h1 h2
    refine ⟨i + 1, by omega, ?_, by omega⟩
    repeat' first
      | exact trivial | refine Weak.mk ?_ ?_ ?_ ?_ (Or.inl (Nat.le_of_ble_eq_true rfl)) | refine And.intro ?_ ?_ | with_reducible rfl | exact Nat.le_of_ble_eq_true rfl | refine fr1 ?_ | refine AV.int_congr ?_ | refine AV.list_congr ?_ | (apply rfl)
    · rw [vs_yes (by omega) h2, strs_append] <;> rfl
    · rw [wrap64 (by omega) (by omega)]; rfl
    · rw [vs_yes (by omega) h2, List.length_append] <;> rfl
  · rename_i h1 h2
    refine ⟨i + 1, by omega, ?_, by omega⟩
    repeat' first
      | exact trivial | refine Weak.mk ?_ ?_ ?_ ?_ (Or.inl (Nat.le_of_ble_eq_true rfl)) | refine And.intro ?_ ?_ | with_reducible rfl | exact Nat.le_of_ble_eq_true rfl | refine fr1 ?_ | refine AV.int_congr ?_ | refine AV.list_congr ?_ | (apply rfl)
    · rw [vs_no (by omega) h2] <;> rfl
    · rw [wrap64 (by omega) (by omega)]; rfl
    · rw [vs_no (by omega) h2]
  · omega
  all_goals rw [List.take_of_length_le (by omega)]
theorem pVarsOf.ret (f : VPattern) (h : tPattern.size f ≤ 1048576) : pVarsOf.Ret [.agg (oldL (tPattern.q f))] (.list (some 1) (strs (insAll blt (vs f.2)))) [(9, 1, (vs f.2).length), (9, 1, (insAll blt (vs f.2)).length)] := by
  refine pVarsOf.of rfl ?_
  have h : tFct.size f ≤ 1048576 := h
  rw [tFct_size, tStrs_size] at h
  repeat' first
    | (conv => whnf
       first | refine Final.mk ?_ rfl | refine ACall.mkR _ _ _ (pvarsAmong.ret _ ?_ ?_) ?_)
    | refine AV.list_congr ?_
  · omega
  · omega
  · exact mapTLL_old _ _
def idxS : List Str → Str → Int → Int
  | [], _, _ => -1
  | g :: l, f, n => if g = f then n else idxS l f (n + 1)
theorem idxS_drop {l : List Str} {f : Str} {i : Nat} (hi : i < l.length) : idxS (l.drop i) f i = if l.getD i [] = f then (i : Int) else idxS (l.drop (i + 1)) f ((i + 1 : Nat) : Int) := by
  rw [List.drop_eq_getElem_cons hi, idxS]
  simp [List.getD, hi]
theorem idxS_in : ∀ (l : List Str) (x : Str) (n : Int), 0 ≤ n → (0 ≤ idxS l x n ↔ x ∈ l)
  | [], _, _, _ => by simp [idxS]
  | g :: l, x, n, hn => by
    rw [idxS]
    split
    · rename_i h; simp [h, hn]
    · rename_i h; rw [idxS_in l x (n + 1) (by omega)]; simp [Ne.symm h]
theorem slIndex.ret (l : List Str) (x : Str) (h : l.length ≤ 1048576) : slIndex.Ret [.list none (strs l), .str x] (.val (.int .i64 (idxS l x 0))) [] := by
  refine slIndex.of rfl ?_
  skip
  refine ALoop.mk Nat (fun i => ⟨[(0, .list none (strs l)), (1, .str x), (7, .val (.int .i64 l.length)), (8, .val (.int .i64 i))], [], []⟩) (fun i => i ≤ l.length ∧ idxS (l.drop i) x i = idxS l x 0) (fun i => l.length - i) ⟨0, ⟨Nat.zero_le _, rfl⟩, ?_⟩ (fun i hi => ?_)
  · repeat' first
      | exact trivial | refine Weak.mk ?_ ?_ ?_ ?_ (Or.inl (Nat.le_of_ble_eq_true rfl)) | refine And.intro ?_ ?_ | with_reducible rfl | exact Nat.le_of_ble_eq_true rfl | refine AV.int_congr ?_ | refine AV.str_congr ?_ | refine AV.list_congr ?_ | (apply rfl)
    simp
  repeat' first
    | (conv => whnf
       first | refine Need.mk rfl ?_ | refine Ix.strsF rfl ?_ | refine Fork.dec (fun _ => ?_) (fun _ => ?_) | refine Fork.seq (fun _ => ?_) (fun _ => ?_) | refine Round.mk ?_ | refine LitO.own rfl ?_ | refine FinVal.keep ?_ | refine Final.mk ?_ rfl)
    | refine AV.int_congr ?_
  all_goals try simp only [length_rows, length_strs, length_oldLL, List.length_map, Int.toNat_natCast] at *
  · rename_i h1 h2
    rw [← hi.2, idxS_drop (by omega), if_pos h2.symm]
  · rename_i h1 h2
    have h3 := hi.2
    rw [idxS_drop (by omega), if_neg (fun e => h2 e.symm)] at h3
    refine ⟨i + 1, ⟨by omega, h3⟩, ?_, by omega⟩
    repeat' first
      | exact trivial | refine Weak.mk ?_ ?_ ?_ ?_ (Or.inl (Nat.le_of_ble_eq_true rfl)) | refine And.intro ?_ ?_ | with_reducible rfl | exact Nat.le_of_ble_eq_true rfl | refine AV.int_congr ?_ | refine AV.str_congr ?_ | refine AV.list_congr ?_ | (apply rfl)
    rw [wrap64 (by omega) (by omega)]; rfl
  · rw [← hi.2, List.drop_eq_nil_of_le (by omega)]; rfl
theorem slContains.ret (l : List Str) (x : Str) (h : l.length ≤ 1048576) : slContains.Ret [.list none (strs l), .str x] (.val (.bool (decide (x ∈ l)))) [] := by
  refine slContains.of rfl ?_
  repeat' first
    | (conv => whnf
       first | refine Need.mk rfl ?_ | refine LitO.own rfl ?_ | refine FinVal.keep ?_ | refine Final.mk ?_ rfl | refine ACall.scalA _ _ (slIndex.ret _ _ ?_) rfl ?_)
    | refine AV.bool_congr ?_
  · exact h
  · rw [Bool.eq_iff_iff]; simpa using idxS_in l x 0 (by omega)
def restF (b : List VPair) (l : List Str) : List VPair := b.filter fun p => decide (p.1 ∈ l)
theorem restF_yes {b : List VPair} {l : List Str} {i : Nat} (hi : i < b.length) (h : (b.getD i default).1 ∈ l) : restF (b.take (i + 1)) l = restF (b.take i) l ++ [b.getD i default] := by
  rw [take_succ' default hi, restF, List.filter_append]
  simp only [List.filter_cons, decide_eq_true h]; simp [restF]
theorem restF_no {b : List VPair} {l : List Str} {i : Nat} (hi : i < b.length) (h : (b.getD i default).1 ∉ l) : restF (b.take (i + 1)) l = restF (b.take i) l := by
  rw [take_succ' default hi, restF, List.filter_append]
  simp only [List.filter_cons, decide_eq_false h]; simp [restF]
theorem restF_len (b : List VPair) (l : List Str) (i : Nat) : (restF (b.take i) l).length ≤ b.length := by
  refine Nat.le_trans (List.length_filter_le _ _) ?_
  rw [List.length_take]; omega
theorem pRestrict.ret (b : List VPair) (l : List Str) (h : tPairs.size b ≤ 1048576) (h' : l.length ≤ 1048576) : pRestrict.Ret [.list none (pairs b), .list none (strs l)] (.list (some 0) (pairs (restF b l))) [(50, 2, (restF b l).length)] := by
  refine pRestrict.of rfl ?_
  rw [tPairs_sz] at h
  repeat' first
    | contradiction | exact trivial
    | (conv => whnf
       first | refine Need.mk (fun h => h) ?_ | refine Need.mk rfl ?_ | refine Need.mk ⟨rfl, Nat.le_of_ble_eq_true rfl⟩ ?_ | refine Need.mk (Nat.le_of_ble_eq_true rfl) ?_ | refine Need.fin ?_ | refine Need.mk ?_ ?_ | refine Ix.strsF rfl ?_ | refine Ix.strs rfl ?_ ?_ | refine Cut.strs rfl ?_ ?_ | refine Ix.mapF (fun _ => rfl) ?_ | refine Ix.map (fun _ => rfl) ?_ ?_ | refine Cut.map (fun _ => rfl) ?_ ?_ | refine Fork.yes (by assumption) ?_ | refine Fork.no (by assumption) ?_ | refine Fork.decYes (by omega) ?_ | refine Fork.decNo (by omega) ?_ | refine Fork.dec (fun _ => ?_) (fun _ => ?_) | refine Fork.bne (fun _ => ?_) (fun _ => ?_) | refine Fork.beq (fun _ => ?_) (fun _ => ?_) | refine Fork.seq (fun _ => ?_) (fun _ => ?_) | refine Fork.sne (fun _ => ?_) (fun _ => ?_) | refine Fork.neg (fun _ => ?_) (fun _ => ?_) | refine Fork.mk (fun _ => ?_) (fun _ => ?_) | refine GFork.fork (.val (.bool false)) (fun hgf => ?_) (fun hgf => ?_) | refine HAlt.mk ?_ ?_ | apply HJoin.mk3 | exact HEnd.mk rfl rfl rfl | refine HEnd.mk ?_ ?_ ?_ | refine Round.mk ?_ | refine NilQ.mk (fun b hb => ?_) | refine forceK_of ?_ | refine forceBx_of ?_ | refine unG_old ?_ | refine unG_gv ?_ | refine Lit.read rfl ?_ | refine LitO.own rfl ?_ | refine FinVal.keep ?_ | refine FinAgg.keep ?_ | refine Final.mk rfl rfl | refine Final.mk ?_ rfl | refine Final.mk ?_ ?_ | refine FinalT.mk ?_ ?_ | refine FinalI.mk ?_ | refine FinalC.allA ?_)
    | refine AV.bool_congr ?_ | refine AV.int_congr ?_ | refine AV.str_congr ?_ | refine AV.list_congr ?_ | with_reducible rfl | refine fr1 ?_ | refine fr2 ?_ ?_
  refine ALoop.mk Nat (fun i => ⟨[(0, .list none (pairs b)), (1, .list none (strs l)), (5, .list (some 0) (pairs (restF (b.take i) l))), (9, .list none (pairs b)), (10, .val (.int .i64 b.length)), (11, .val (.int .i64 i))], [], [(50, 2, (restF (b.take i) l).length)]⟩) (fun i => i ≤ b.length) (fun i => b.length - i) ⟨0, Nat.zero_le _, ?_⟩ (fun i hi => ?_)
  · repeat' first
      | exact trivial | refine Weak.mk ?_ ?_ ?_ ?_ (Or.inl (Nat.le_of_ble_eq_true rfl)) | refine Weak.mk ?_ ?_ ?_ ?_ (Or.inr ⟨(by repeat' first | exact trivial | exact Nat.le_of_ble_eq_true rfl | refine And.intro ?_ ?_), (by repeat' first | exact trivial | exact Nat.le_of_ble_eq_true rfl | refine And.intro ?_ ?_)⟩) | refine Weak.mk ?_ ?_ ?_ ?_ ?_ | refine And.intro ?_ ?_ | with_reducible rfl | exact Nat.le_of_ble_eq_true rfl | refine fr1 ?_ | refine fr2 ?_ ?_ | refine AV.int_congr ?_ | refine AV.bool_congr ?_ | refine AV.str_congr ?_ | refine AV.list_congr ?_ | refine AV.bsl_congr ?_ ?_ | (apply rfl)
    simp
  have hlen := restF_len b l i
  repeat' first
    | contradiction | exact trivial
    | (conv => whnf
       first | refine Need.mk (fun h => h) ?_ | refine Need.mk rfl ?_ | refine Need.mk ⟨rfl, Nat.le_of_ble_eq_true rfl⟩ ?_ | refine Need.mk (Nat.le_of_ble_eq_true rfl) ?_ | refine Need.fin ?_ | refine Need.mk ?_ ?_ | refine Ix.strsF rfl ?_ | refine Ix.strs rfl ?_ ?_ | refine Cut.strs rfl ?_ ?_ | refine Ix.mapF (fun _ => rfl) ?_ | refine Ix.map (fun _ => rfl) ?_ ?_ | refine Cut.map (fun _ => rfl) ?_ ?_ | refine Fork.yes (by assumption) ?_ | refine Fork.no (by assumption) ?_ | refine Fork.decYes (by omega) ?_ | refine Fork.decNo (by omega) ?_ | refine Fork.dec (fun _ => ?_) (fun _ => ?_) | refine Fork.bne (fun _ => ?_) (fun _ => ?_) | refine Fork.beq (fun _ => ?_) (fun _ => ?_) | refine Fork.seq (fun _ => ?_) (fun _ => ?_) | refine Fork.sne (fun _ => ?_) (fun _ => ?_) | refine Fork.neg (fun _ => ?_) (fun _ => ?_) | refine Fork.mk (fun _ => ?_) (fun _ => ?_) | refine GFork.fork (.val (.bool false)) (fun hgf => ?_) (fun hgf => ?_) | refine HAlt.mk ?_ ?_ | apply HJoin.mk3 | exact HEnd.mk rfl rfl rfl | refine HEnd.mk ?_ ?_ ?_ | refine Round.mk ?_ | refine NilQ.mk (fun b hb => ?_) | refine forceK_of ?_ | refine forceBx_of ?_ | refine unG_old ?_ | refine unG_gv ?_ | refine Lit.read rfl ?_ | refine LitO.own rfl ?_ | refine FinVal.keep ?_ | refine FinAgg.keep ?_ | refine Final.mk rfl rfl | refine Final.mk ?_ rfl | refine Final.mk ?_ ?_ | refine FinalT.mk ?_ ?_ | refine FinalI.mk ?_ | refine FinalC.allA ?_ | refine ACall.scalA _ _ (slContains.ret _ _ ?_) rfl ?_ | refine AQCall.mkA _ _ (fun hg => slContains.ret _ _ ?_) rfl ?_ | refine AGCall.mkA _ _ (fun hg => slContains.ret _ _ ?_) rfl ?_)
    | refine AV.bool_congr ?_ | refine AV.int_congr ?_ | refine AV.str_congr ?_ | refine AV.list_congr ?_ | with_reducible rfl | refine fr1 ?_ | refine fr2 ?_ ?_
  all_goals try simp only [length_rows, length_strs, length_oldLL, List.length_map, Int.toNat_natCast] at *
  · exact h'
  · intro c hc; rw [List.mem_singleton.1 hc]; rfl
  · simp only [List.length_singleton]; omega
  · rename_i h1 h2
    have h3 : (b.getD i default).1 ∈ l := by first | simpa using h1 | simpa using h2
    refine ⟨i + 1, by omega, ?_, by omega⟩
    repeat' first
      | exact trivial | refine Weak.mk ?_ ?_ ?_ ?_ (Or.inl (Nat.le_of_ble_eq_true rfl)) | refine Weak.mk ?_ ?_ ?_ ?_ (Or.inr ⟨(by repeat' first | exact trivial | exact Nat.le_of_ble_eq_true rfl | refine And.intro ?_ ?_), (by repeat' first | exact trivial | exact Nat.le_of_ble_eq_true rfl | refine And.intro ?_ ?_)⟩) | refine Weak.mk ?_ ?_ ?_ ?_ ?_ | refine And.intro ?_ ?_ | with_reducible rfl | exact Nat.le_of_ble_eq_true rfl | refine fr1 ?_ | refine fr2 ?_ ?_ | refine AV.int_congr ?_ | refine AV.bool_congr ?_ | refine AV.str_congr ?_ | refine AV.list_congr ?_ | refine AV.bsl_congr ?_ ?_ | (apply rfl)
    · rw [restF_yes (by omega) h3]; exact rows_snoc tPair _ _
    · rw [wrap64 (by omega) (by omega)]; rfl
    · rw [restF_yes (by omega) h3, List.length_append] <;> rfl
  · rename_i h1 h2
    have h3 : (b.getD i default).1 ∉ l := by first | simpa using h1 | simpa using h2
    refine ⟨i + 1, by omega, ?_, by omega⟩
    repeat' first
      | exact trivial | refine Weak.mk ?_ ?_ ?_ ?_ (Or.inl (Nat.le_of_ble_eq_true rfl)) | refine Weak.mk ?_ ?_ ?_ ?_ (Or.inr ⟨(by repeat' first | exact trivial | exact Nat.le_of_ble_eq_true rfl | refine And.intro ?_ ?_), (by repeat' first | exact trivial | exact Nat.le_of_ble_eq_true rfl | refine And.intro ?_ ?_)⟩) | refine Weak.mk ?_ ?_ ?_ ?_ ?_ | refine And.intro ?_ ?_ | with_reducible rfl | exact Nat.le_of_ble_eq_true rfl | refine fr1 ?_ | refine fr2 ?_ ?_ | refine AV.int_congr ?_ | refine AV.bool_congr ?_ | refine AV.str_congr ?_ | refine AV.list_congr ?_ | refine AV.bsl_congr ?_ ?_ | (apply rfl)
    · rw [restF_no (by omega) h3] <;> rfl
    · rw [wrap64 (by omega) (by omega)]; rfl
    · rw [restF_no (by omega) h3]
  · rw [List.take_of_length_le (by omega)]
  · rw [List.take_of_length_le (by omega)]
theorem pRestrict.own (b : List VPair) (l : List Str) (h : tPairs.size b ≤ 1048576) (h' : l.length ≤ 1048576) : pRestrict.Own [.list none (pairs b), .list none (strs l)] (.l 50 2 ((restF b l).map tPair.q)) := plain_own tPair (fun _ => rfl) (fun _ => rfl) 50 0 rfl (pRestrict.ret b l h h')
end Go.Proofs.Ytkbblglbbfdnpaa
namespace Go.Proofs
open Go.RowKit Go.Maps Go.Sort Go.Shelf
def Try.keys92_ren : Go.Shelf.Ren := ⟨fun | 7 => 92 | 10 => 123 | n => n, fun | 23 => 77 | 26 => 9 | 3 => 9 | 28 => 107 | 0 => 0 | 27 => 106 | 33 => 82 | 4 => 4 | n => n, fun | n => n⟩
theorem Try.keys92 : Go.Proofs.SlLaysZ.n7 Try.prog Try.keys92_ren := {
  mixed := by kernel_rfl
  f7 := ⟨Try.f92.name, by decide, Try.func92.trans (congrArg some (by kernel_rfl))⟩
  f10 := ⟨Try.f123.name, by decide, Try.func123.trans (congrArg some (by kernel_rfl))⟩
  t0 := Try.underlying0
  a0 := Try.isAgg0
  z0 := Try.sizeOf0
  v0 := Try.zeroValue0
  t4 := Try.underlying4
  a4 := Try.isAgg4
  z4 := Try.sizeOf4
  v4 := Try.zeroValue4
  t23 := Try.underlying77
  a23 := Try.isAgg77
  z23 := Try.sizeOf77
  v23 := Try.zeroValue77
  t26 := Try.underlying9
  a26 := Try.isAgg9
  z26 := Try.sizeOf9
  v26 := Try.zeroValue9
  t27 := Try.underlying106
  a27 := Try.isAgg106
  z27 := Try.sizeOf106
  v27 := Try.zeroValue106
  t28 := Try.underlying107
  a28 := Try.isAgg107
  z28 := Try.sizeOf107
  v28 := Try.zeroValue107
  t33 := Try.underlying82
  a33 := Try.isAgg82
  z33 := Try.sizeOf82
  v33 := Try.zeroValue82 }
def Try.sorted91_ren : Go.Shelf.Ren := ⟨fun | 6 => 91 | 8 => 121 | 9 => 122 | 11 => 133 | 13 => 77 | 12 => 134 | 23 => 116 | 24 => 117 | 14 => 140 | 15 => 141 | 16 => 142 | 17 => 143 | 18 => 144 | 19 => 145 | 20 => 146 | 21 => 147 | 22 => 148 | 25 => 149 | 26 => 129 | 27 => 130 | 28 => 150 | 29 => 151 | 30 => 82 | 31 => 152 | n => n, fun | 26 => 9 | 28 => 107 | 24 => 25 | 0 => 0 | 3 => 3 | 37 => 96 | 48 => 130 | 50 => 132 | 4 => 4 | 40 => 124 | 39 => 123 | 45 => 98 | 5 => 5 | 9 => 9 | 51 => 140 | 55 => 144 | 57 => 148 | 58 => 149 | 33 => 82 | n => n, fun | n => n⟩
theorem Try.sorted91 : Go.Proofs.SlLaysZ.n6 Try.prog Try.sorted91_ren := {
  mixed := by kernel_rfl
  f6 := ⟨Try.f91.name, by decide, Try.func91.trans (congrArg some (by kernel_rfl))⟩
  f8 := ⟨Try.f121.name, by decide, Try.func121.trans (congrArg some (by kernel_rfl))⟩
  f11 := ⟨Try.f133.name, by decide, Try.func133.trans (congrArg some (by kernel_rfl))⟩
  t0 := Try.underlying0
  a0 := Try.isAgg0
  z0 := Try.sizeOf0
  v0 := Try.zeroValue0
  t24 := Try.underlying25
  a24 := Try.isAgg25
  z24 := Try.sizeOf25
  v24 := Try.zeroValue25
  t26 := Try.underlying9
  a26 := Try.isAgg9
  z26 := Try.sizeOf9
  v26 := Try.zeroValue9
  t28 := Try.underlying107
  a28 := Try.isAgg107
  z28 := Try.sizeOf107
  v28 := Try.zeroValue107
  i26 := by kernel_rfl }
def Try.sort122_ren : Go.Shelf.Ren := ⟨fun | 6 => 122 | 8 => 77 | 9 => 134 | 19 => 116 | 20 => 117 | 21 => 140 | 22 => 141 | 23 => 142 | 24 => 143 | 25 => 144 | 26 => 145 | 27 => 146 | 28 => 147 | 29 => 148 | 36 => 149 | 31 => 129 | 32 => 130 | 37 => 150 | 38 => 151 | 39 => 82 | 41 => 152 | n => n, fun | 27 => 25 | 29 => 9 | 3 => 3 | 32 => 96 | 26 => 25 | 0 => 0 | 44 => 130 | 46 => 132 | 4 => 4 | 36 => 124 | 35 => 123 | 41 => 98 | 5 => 5 | 9 => 9 | 53 => 140 | 57 => 144 | 63 => 148 | 64 => 149 | n => n, fun | n => n⟩
theorem Try.sort122 : Go.Proofs.SlLaysM.n6 Try.prog Try.sort122_ren := {
  mixed := by kernel_rfl
  f6 := ⟨Try.f122.name, by decide, Try.func122.trans (congrArg some (by kernel_rfl))⟩
  f8 := Try.func77.trans (congrArg some (by kernel_rfl))
  f9 := ⟨Try.f134.name, by decide, Try.func134.trans (congrArg some (by kernel_rfl))⟩
  f19 := Try.func116.trans (congrArg some (by kernel_rfl))
  f20 := Try.func117.trans (congrArg some (by kernel_rfl))
  f21 := ⟨Try.f140.name, by decide, Try.func140.trans (congrArg some (by kernel_rfl))⟩
  f22 := ⟨Try.f141.name, by decide, Try.func141.trans (congrArg some (by kernel_rfl))⟩
  f23 := ⟨Try.f142.name, by decide, Try.func142.trans (congrArg some (by kernel_rfl))⟩
  f24 := ⟨Try.f143.name, by decide, Try.func143.trans (congrArg some (by kernel_rfl))⟩
  f25 := ⟨Try.f144.name, by decide, Try.func144.trans (congrArg some (by kernel_rfl))⟩
  f26 := ⟨Try.f145.name, by decide, Try.func145.trans (congrArg some (by kernel_rfl))⟩
  f27 := ⟨Try.f146.name, by decide, Try.func146.trans (congrArg some (by kernel_rfl))⟩
  f28 := ⟨Try.f147.name, by decide, Try.func147.trans (congrArg some (by kernel_rfl))⟩
  f29 := ⟨Try.f148.name, by decide, Try.func148.trans (congrArg some (by kernel_rfl))⟩
  f31 := Try.func129.trans (congrArg some (by kernel_rfl))
  f32 := Try.func130.trans (congrArg some (by kernel_rfl))
  f36 := ⟨Try.f149.name, by decide, Try.func149.trans (congrArg some (by kernel_rfl))⟩
  f37 := ⟨Try.f150.name, by decide, Try.func150.trans (congrArg some (by kernel_rfl))⟩
  f38 := ⟨Try.f151.name, by decide, Try.func151.trans (congrArg some (by kernel_rfl))⟩
  f39 := ⟨Try.f82.name, by decide, Try.func82.trans (congrArg some (by kernel_rfl))⟩
  f41 := ⟨Try.f152.name, by decide, Try.func152.trans (congrArg some (by kernel_rfl))⟩
  t0 := Try.underlying0
  a0 := Try.isAgg0
  z0 := Try.sizeOf0
  v0 := Try.zeroValue0
  t3 := Try.underlying3
  a3 := Try.isAgg3
  z3 := Try.sizeOf3
  v3 := Try.zeroValue3
  t4 := Try.underlying4
  a4 := Try.isAgg4
  z4 := Try.sizeOf4
  v4 := Try.zeroValue4
  t5 := Try.underlying5
  a5 := Try.isAgg5
  z5 := Try.sizeOf5
  v5 := Try.zeroValue5
  t9 := Try.underlying9
  a9 := Try.isAgg9
  z9 := Try.sizeOf9
  v9 := Try.zeroValue9
  t26 := Try.underlying25
  a26 := Try.isAgg25
  z26 := Try.sizeOf25
  v26 := Try.zeroValue25
  t27 := Try.underlying25
  a27 := Try.isAgg25
  z27 := Try.sizeOf25
  v27 := Try.zeroValue25
  t29 := Try.underlying9
  a29 := Try.isAgg9
  z29 := Try.sizeOf9
  v29 := Try.zeroValue9
  t32 := Try.underlying96
  a32 := Try.isAgg96
  z32 := Try.sizeOf96
  v32 := Try.zeroValue96
  t35 := Try.underlying123
  a35 := Try.isAgg123
  z35 := Try.sizeOf123
  v35 := Try.zeroValue123
  t36 := Try.underlying124
  a36 := Try.isAgg124
  z36 := Try.sizeOf124
  v36 := Try.zeroValue124
  t41 := Try.underlying98
  a41 := Try.isAgg98
  z41 := Try.sizeOf98
  v41 := Try.zeroValue98
  t44 := Try.underlying130
  a44 := Try.isAgg130
  z44 := Try.sizeOf130
  v44 := Try.zeroValue130
  t46 := Try.underlying132
  a46 := Try.isAgg132
  z46 := Try.sizeOf132
  v46 := Try.zeroValue132
  t53 := Try.underlying140
  a53 := Try.isAgg140
  z53 := Try.sizeOf140
  v53 := Try.zeroValue140
  t57 := Try.underlying144
  a57 := Try.isAgg144
  z57 := Try.sizeOf144
  v57 := Try.zeroValue144
  t63 := Try.underlying148
  a63 := Try.isAgg148
  z63 := Try.sizeOf148
  v63 := Try.zeroValue148
  t64 := Try.underlying149
  a64 := Try.isAgg149
  z64 := Try.sizeOf149
  v64 := Try.zeroValue149 }
theorem Try.sorts91 (m : Nat) : AnyZ.SortsIn Try.prog Try.sorted91_ren Fence.wide m :=
  ⟨fun blk off cap ss W hH hblk hsz => callsIn_wide.2 (AnyM.slices_Sort_string Try.sort122 blk off cap ss W hH hblk hsz),
   fun p cap W => callsIn_wide.2 (AnyM.slices_Sort_string_none Try.sort122 p cap W)⟩
set_option maxHeartbeats 1000000 in
theorem Try.sortedKeysAt {H : Type} (c b nn : Nat) (D0 : DataW H) (R : Value → Option (DataW H × List MemPlace)) (w : World) (hcs : c < w.heap.size) (hc : w.cell? ⟨c, 0, none⟩ = some (.map (some b))) (hown : w.ownsMap Try.prog 9 R b nn D0) (hmax : Maps.size D0 ≤ maxLen) (hbytes : Maps.size D0 * 16 ≤ 140737488355328) :
    CallsIn Fence.wide 5 Try.prog 91 #[.func (.func 123) #[] #[.pointer (some ⟨c, 0, none⟩)]] w fun e w' => ∃ (v : Value) (ss : List (List UInt8)), e = .returned v ∧ ss.Perm (strKeys D0) ∧
      w'.ownsRow w.heap.size 9 1 v ss.length ((ss.mergeSort (fun x y => decide (x ≤ y))).map encStr) ∧ (v = .slice none 0 0 ↔ ss = []) ∧ Below w.heap.size w w' := by
  have hseq : SeqGives Fence.wide 2 Try.prog 123 #[.pointer (some ⟨c, 0, none⟩)] encStr (fun ss => ss.Perm (strKeys D0)) (Maps.size D0) w :=
    AnyZ.keys_gives (ρ := Try.keys92_ren) { Try.keys92 with } Fence.wide _ trivial rfl (by omega) c b nn D0 w hcs hc hown
  exact AnyZ.sorted_in Try.sorted91 Fence.wide 5 trivial trivial trivial trivial rfl (by omega) (Try.sorts91 _) (enters_of Try.func122 (by kernel_rfl) rfl) 123 #[.pointer (some ⟨c, 0, none⟩)] trivial (enters_of Try.func123 (by kernel_rfl) rfl) _ _ hmax hbytes _ hseq
end Go.Proofs
namespace Go.Proofs.Ytkbblglbbfdnpaa
open Abs Go.RowKit
theorem strs_get2 {l : List Str} {i j : Nat} {e : List AV} {c : AV} (hi : (strs l)[i]? = some e) (hj : e[j]? = some c) : ∃ s, l[i]? = some s ∧ j = 0 ∧ c = .str s := by
  rw [strs_eq, List.getElem?_map] at hi
  obtain ⟨s, hs, rfl⟩ := Option.map_eq_some_iff.1 hi
  cases j with
  | zero => simp at hj; exact ⟨s, hs, rfl, hj.symm⟩
  | succ j => simp at hj
/-- a row of texts that a call owns, as a list of its own -/
theorem lent_strs {T : TypeId} {w w' : World} {F : Nat → Nat} {box0 : List BId} {b0 : List ABox} {Φ : AV → List ABox → Fr → Prop} {v : Value} {l : List Str} (hd : noDead b0 = true)
    (hout : ∀ b, w.heap.size ≤ b → F b = 0) (hbl : box0.length = b0.length) (hbi : ∀ (j b c : Nat), box0[j]? = some (.blk b c) → b < w.heap.size ∧ (live b0 j → F b = 0))
    (hbj : ∀ (i j b c c' : Nat), box0[i]? = some (.blk b c) → box0[j]? = some (.blk b c') → live b0 i → live b0 j → i = j) (hB : BoxesOk w.heap.size w F [] [] box0 b0)
    (hrow : w'.ownsRow w.heap.size T 1 v l.length (l.map encStr)) (hw : Below w.heap.size w w') (hΦ : Φ (.list (some 0) (strs l)) b0 [(T, 1, l.length)]) :
    ∃ (u : Value) (F' : Nat → Nat) (box1 : List BId) (tok : List (Option Nat)) (frs : Fr) (r : AV) (b1 : List ABox), Φ r b1 frs ∧ Ending.returned v = .returned u ∧ Keep false (mask b0 box0) w w' ∧ (∀ b, b < w.heap.size → F' b = F b) ∧ (∀ b, w'.heap.size ≤ b → F' b = 0) ∧
      (∀ (j : Nat) d, box0[j]? = some d → box1[j]? = some d) ∧ box1.length = b1.length ∧
      (∀ (j b c : Nat), box0.length ≤ j → box1[j]? = some (.blk b c) → (w.heap.size ≤ b ∨ ∃ i : Nat, live b0 i ∧ box0[i]? = some (.blk b c)) ∧ b < w'.heap.size) ∧
      (∀ (j b c : Nat), box1[j]? = some (.blk b c) → live b1 j → (box0.length ≤ j ∨ live b0 j) → F' b = 0) ∧
      (∀ (i j b c c' : Nat), box1[i]? = some (.blk b c) → box1[j]? = some (.blk b c') → live b1 i → live b1 j → (box0.length ≤ i ∨ live b0 i) → (box0.length ≤ j ∨ live b0 j) → i = j) ∧
      (∀ (j : Nat) d x, box1[j]? = some d → b1[j]? = some x → (box0.length ≤ j ∨ live b0 j) → BoxOk w.heap.size w' F' [] [] box1 d x) ∧
      tok.length = frs.length ∧ (∀ (k b : Nat), tok[k]? = some (some b) → w.heap.size ≤ b ∧ b < w'.heap.size) ∧ (∀ (k l b : Nat), tok[k]? = some (some b) → tok[l]? = some (some b) → k = l) ∧
      (∀ (k b j c : Nat), tok[k]? = some (some b) → box1[j]? = some (.blk b c) → ¬ live b1 j) ∧ Rep w.heap.size w' F' tok frs box1 r u := by
  have hlv := noDead_live hd
  have hk : Keep false (mask b0 box0) w w' := ⟨(fun h => nomatch h), hw.os, hw.tape, hw.output, hw.size, fun k hk _ => hw.block k hk⟩
  obtain ⟨a, cap, hv, hcap, hnew, hne⟩ : ∃ (a : Option Addr) (cap : Nat), v = .slice a l.length cap ∧ l.length ≤ cap ∧ (∀ g, a.map (·.block) = some g → w.heap.size ≤ g ∧ g < w'.heap.size) ∧ (l ≠ [] → ∃ g cur, a = some ⟨g, 0, none⟩ ∧ w'.heap[g]? = some (.cells cur T (0, 0)) ∧ cur.toList.take l.length = l.map encStr) := by
    rcases hrow.2 with ⟨hv, hn⟩ | ⟨g, cap, cur, hv, hbase, hh, h1, h2, h3, h4⟩
    · have hl : l = [] := List.eq_nil_of_length_eq_zero hn
      subst hl
      exact ⟨none, 0, hv, Nat.le_refl _, by simp, fun h => (h rfl).elim⟩
    · refine ⟨some ⟨g, 0, none⟩, cap, hv, h1, fun b hb => ?_, fun _ => ⟨g, cur, rfl, hh, by simpa using h4⟩⟩
      cases hb
      exact ⟨hbase, (Array.getElem?_eq_some_iff.1 hh).1⟩
  subst hv
  obtain ⟨F', hF'⟩ : ∃ F' : Nat → Nat, ∀ b, F' b = if a.map (·.block) = some b then l.length else F b := ⟨_, fun _ => rfl⟩
  refine ⟨_, F', box0, [a.map (·.block)], [(T, 1, l.length)], _, b0, hΦ, rfl, hk, fun b hb => ?_, fun b hb => ?_, fun _ _ h => h, hbl, fun j b c h1 h2 => ?_, fun j b c h1 h2 _ => ?_, fun i j b c c' h1 h2 h3 h4 _ _ => hbj i j b c c' h1 h2 h3 h4, fun j d x hd' hx _ => ?_, rfl, fun k b hkb => ?_, fun k q b h1 h2 => ?_, fun k b j c h1 h2 => ?_, ?_⟩
  · rw [hF']; split
    · rename_i h; have := (hnew b h).1; omega
    · rfl
  · rw [hF']; split
    · rename_i h; have := (hnew b h).2; omega
    · exact hout b (Nat.le_trans hw.size hb)
  · have := getElem?_lt h2; omega
  · have := hbi j b c h1
    rw [hF']; split
    · rename_i h; have := (hnew b h).1; omega
    · exact this.2 (hlv j)
  · refine (hB j d x hd' hx).later (F := F) ⟨fun b i hi => ?_, fun b => ?_, fun k t s n h => by simp at h⟩ (fun _ _ h => h) (fun b c he _ => hw.block b (hbi j b c (he ▸ hd')).1)
    · have hlt : b < w.heap.size := by
        rcases Nat.lt_or_ge b w.heap.size with h | h
        · exact h
        · rw [hout b h] at hi; omega
      exact World.cell?_of_block (w := w) (hw.block b hlt)
    · rw [hF']; split
      · rename_i h; rw [hout b (hnew b h).1]; exact Nat.zero_le _
      · exact Nat.le_refl _
  · cases k with
    | zero => simp at hkb; exact hnew b (by simpa using hkb)
    | succ k => simp at hkb
  · cases k <;> cases q <;> simp at h1 h2 ⊢
  · cases k with
    | zero => simp at h1; have := (hbi j b c h2).1; have := (hnew b (by simpa using h1)).1; omega
    | succ k => simp at h1
  · have hlen : (strs l).length = l.length := length_strs l
    rw [← hlen]
    have hcell : ∀ i s, l[i]? = some s → ∃ g, a = some ⟨g, 0, none⟩ ∧ w'.cell? ⟨g, i, none⟩ = some (mkS s) := fun i s hs => by
      obtain ⟨g, cur, hg, hh, ht⟩ := hne (by rintro rfl; simp at hs)
      refine ⟨g, hg, ?_⟩
      have h1 : (cur.toList.take l.length)[i]? = some (mkS s) := by rw [ht, List.getElem?_map, hs]; rfl
      rw [List.getElem?_take, if_pos (getElem?_lt hs)] at h1
      simp [World.cell?, hh]
      simpa using h1
    refine .list (some 0) (strs l) a cap 1 ((a.map (·.block)).getD 0) 0 (fun i _ => mkS (l.getD i [])) (by omega) (fun hx => ?_) (fun e he => ?_) (fun hx => ?_) (fun i e j c hi hj => ?_) (fun i e j c hi hj => ?_) (fun k hk' => ?_)
    · obtain ⟨g, cur, hg, _, _⟩ := hne (by rintro rfl; exact hx rfl)
      rw [hg]; rfl
    · rw [strs_eq] at he; obtain ⟨s, _, rfl⟩ := List.mem_map.1 he; rfl
    · obtain ⟨g, cur, hg, _, _⟩ := hne (by rintro rfl; exact hx rfl)
      rw [hF', hg]; simp
    · obtain ⟨s, hs, rfl, rfl⟩ := strs_get2 hi hj
      obtain ⟨g, hg, hc⟩ := hcell i s hs
      have e1 : l.getD i [] = s := by simp [List.getD, hs]
      simp only [hg, Option.map_some, Option.getD_some, Nat.zero_add, Nat.mul_one, Nat.add_zero, e1]
      exact ⟨hc, rfl⟩
    · obtain ⟨s, hs, rfl, rfl⟩ := strs_get2 hi hj
      have e1 : l.getD i [] = s := by simp [List.getD, hs]
      simp only [e1]; exact .str s
    · cases hk'
      refine ⟨T, 1, (strs l).length, rfl, Nat.le_refl _, fun _ => ⟨rfl, ⟨l.map encStr, ?_⟩, rfl, fun b hb => ?_⟩⟩
      · rw [hlen]; exact hrow
      · rw [hF', if_pos hb]; simp [hlen]
section
open Go.WideElems (rd rg Fit rg_of)
theorem rd_at {P : Program} {k e : TypeId} {es : Array MapEntry} {clock : Nat} {m : List (Str × Str)} (hk : P.underlying k = some .string) (he : P.underlying e = some .string) (h : MapIs es clock m) {j : Nat} {x : MapEntry} (hx : es.toList[j]? = some x) :
    ∃ p, m[j]? = some p ∧ rd (H := Unit) P k (plainElem P e) x = some (.string p.1, .lit (.string p.2)) := by
  obtain ⟨p, hp, h1, h2⟩ := h.get hx
  obtain ⟨l1, l2⟩ := h.len p (List.mem_of_getElem? hp)
  refine ⟨p, hp, ?_⟩
  have e1 : keyOf P k x.key = some (.string p.1) := by
    rw [h1]; exact WideMaps.keyOf_string_mk hk (s := ⟨p.1.toArray⟩) l1
  have e2 : plainElem (H := Unit) P e x.val = some (.lit (.string p.2), []) := by
    rw [h2]; exact plainElem_string he (s := ⟨p.2.toArray⟩) l2
  simp [rd, e1, e2]
theorem map_owns {P : Program} {k e : TypeId} {w : World} {b : Nat} {es : Array MapEntry} {clock : Nat} {m : List (Str × Str)} (hk : P.underlying k = some .string) (he : P.underlying e = some .string) (h : MapIs es clock m) (hb : w.heap[b]? = some (.map es clock)) :
    ∃ D0 : DataW Unit, w.ownsMap P k (plainElem P e) b m.length D0 ∧ Maps.size D0 = m.length ∧ (strKeys D0).Perm (m.map (·.1)) := by
  have hrg : es.toList.map (rg (H := Unit) P k (plainElem P e)) = m.map fun p => (Lit.string p.1, DataW.lit (.string p.2)) := by
    apply List.ext_getElem?
    intro j
    rw [List.getElem?_map, List.getElem?_map]
    cases hx : es.toList[j]? with
    | none =>
      have : m[j]? = none := by
        have hl := h.length
        rw [List.getElem?_eq_none_iff] at hx ⊢
        simp only [Array.length_toList] at hx; omega
      rw [this]; rfl
    | some x =>
      obtain ⟨p, hp, hr⟩ := rd_at hk he h hx
      rw [hp, Option.map_some, Option.map_some, rg_of hr]
  refine ⟨_, ⟨es, clock, hb, ⟨by rw [h.length]; exact h.size, h.stamped, fun x hx => ?_⟩, by rw [h.length]; exact Nat.le_refl _, rfl⟩, ?_, ?_⟩
  · obtain ⟨j, hj⟩ := List.getElem?_of_mem hx
    obtain ⟨p, _, hr⟩ := rd_at hk he h hj
    exact ⟨_, hr⟩
  · rw [hrg]
    show (List.foldr DataW.insert [] _).length = _
    rw [length_sorted, List.length_map]
  · rw [hrg]
    refine ((WideShapes.sorted_perm _).map _).trans ?_
    rw [List.map_map]
    exact List.Perm.refl _
end
theorem slSortedS.lent (b0 : List ABox) (c j : Nat) (m : List (Str × Str)) (hd : noDead b0 = true) (hc : b0[c]? = some (.cells .var [.bmap j])) (hj : b0[j]? = some (.map m)) (hm : m.length ≤ 1048576) :
    Abs.Lent false Try.prog 91 b0 [.clo 123 [] [.bptr c 0]] (fun x y z => x = .list (some 0) (strs (srt (m.map (·.1)))) ∧ y = b0 ∧ z = [(9, 1, m.length)]) := by
  rw [Lent_eq]
  refine ⟨by kernel_rfl, fun w F vs box0 _ hout hbl hbi hbj hB hargs => ?_⟩
  obtain ⟨v0, rfl⟩ : ∃ v0, vs = #[v0] := by
    have := hargs.1
    match vs, this with
    | ⟨[a]⟩, _ => exact ⟨a, rfl⟩
  obtain ⟨h0, _⟩ := Both.cons.1 hargs
  have hbx : ∀ q x, b0[q]? = some x → ∃ d, box0[q]? = some d := fun q x hx => ⟨_, List.getElem?_eq_getElem (by have := getElem?_lt hx; omega)⟩
  obtain ⟨d1, hd1⟩ := hbx c _ hc
  obtain ⟨d2, hd2⟩ := hbx j _ hj
  have o1 := hB c _ _ hd1 hc
  have o2 := hB j _ _ hd2 hj
  cases d2 with
  | nil => exact o2.elim
  | blk bm cm =>
  cases d1 with
  | nil => exact absurd o1 (by simp [BoxOk])
  | blk bc cc =>
  obtain ⟨arr, t, hh, hsz, hcell, _⟩ := o1
  obtain ⟨r1, _⟩ := hcell 0 _ rfl
  obtain ⟨es, clock, hmh, hM⟩ := o2
  have hv : arr.getD 0 undef = .map (some bm) := by
    generalize arr.getD 0 undef = u at r1
    cases r1 with
    | bmap _ b cap hb => rw [hd2] at hb; cases hb; rfl
  have hlt : bc < w.heap.size := (Array.getElem?_eq_some_iff.1 hh).1
  have hcl : w.cell? ⟨bc, 0, none⟩ = some (.map (some bm)) := by
    have h1 : 0 < arr.size := by simp at hsz; omega
    have h2 : arr[0]? = some (.map (some bm)) := by rw [← hv]; simp [Array.getD, h1]
    simp [World.cell?, hh, h2]
  have hv0 : v0 = .func (.func 123) #[] #[.pointer (some ⟨bc, 0, none⟩)] := by
    cases h0 with
    | clo f xs ys vf vc h1 h2 hr1 hr2 =>
      have e1 : vf = #[] := Array.eq_empty_of_size_eq_zero (by simpa using h1.symm)
      obtain ⟨u, rfl⟩ : ∃ u, vc = #[u] := by
        match vc, h2 with
        | ⟨[u]⟩, _ => exact ⟨u, rfl⟩
      have h3 := hr2 0 _ rfl
      obtain ⟨b, cap, hb, hu⟩ := h3.bptr_inv
      rw [hd1] at hb; cases hb
      have : u = .pointer (some ⟨bc, 0, none⟩) := hu
      rw [e1, this]
  obtain ⟨D0, hown, hDs, hperm⟩ := map_owns (P := Try.prog) (k := 9) (e := 9) Try.underlying9 Try.underlying9 hM hmh
  rw [hv0]
  refine (callsIn_wide.1 (Try.sortedKeysAt bc bm m.length D0 (plainElem Try.prog 9) w hlt hcl hown (by rw [hDs]; unfold maxLen; omega) (by rw [hDs]; omega))).mono ?_
  rintro e w' ⟨v, ss, rfl, hs, hrow, _, hbw⟩
  have hp := hs.trans hperm
  have hl : (srt (m.map (·.1))).length = m.length := by simp [srt]
  have e1 : ss.mergeSort (fun x y => decide (x ≤ y)) = srt (m.map (·.1)) := mergeSort_of_perm hp
  have e2 : ss.length = (srt (m.map (·.1))).length := by rw [hl, hp.length_eq, List.length_map]
  rw [e1, e2] at hrow
  exact lent_strs hd hout hbl hbi hbj hB hrow hbw ⟨rfl, rfl, by rw [hl]⟩
end Go.Proofs.Ytkbblglbbfdnpaa
namespace Go.Proofs.Ytkbblglbbfdnpaa
open Abs
mutual
theorem old_ok : ∀ (x : Tr) (m : Nat), noTk (old x) = true ∧ inB m (old x)
  | .v _, _ => ⟨rfl, trivial⟩
  | .s _, _ => ⟨rfl, trivial⟩
  | .l _ _ xs, _ => ⟨oldLL_ok xs, trivial⟩
  | .a fs, m => inBL_all (oldL_ok fs m)
  | .p fs, m => inBL_all (oldL_ok fs m)
theorem oldL_ok : ∀ (xs : List Tr) (m : Nat), ∀ c ∈ oldL xs, noTk c = true ∧ inB m c
  | [], _, c, hc => by simp [oldL] at hc
  | x :: xs, m, c, hc => by
    rw [oldL] at hc
    rcases List.mem_cons.1 hc with rfl | hc
    · exact old_ok x m
    · exact oldL_ok xs m c hc
theorem oldLL_ok : ∀ (xs : List (List Tr)), noTkLL (oldLL xs) = true
  | [] => rfl
  | x :: xs => by
    rw [oldLL, noTkLL, (inBL_all (oldL_ok x 0)).1, oldLL_ok xs]; rfl
end
theorem noTk_old (xs : List Tr) : ∀ c ∈ oldL xs, noTk c = true := fun c hc => (oldL_ok xs 0 c hc).1
/-- cells without slices of the call's own, and without boxes -/
def PlainC (x : List AV) : Prop := (∀ c ∈ x, noTk c = true) ∧ ∀ m, inB.inBL m x
theorem plainC_old (xs : List Tr) : PlainC (oldL xs) := ⟨noTk_old xs, fun m => (inBL_all (oldL_ok xs m)).2⟩
theorem bindF_lt {b : List VPair} (h : bindF b = true) {j : Nat} (hj : j < b.length) : badB b j = false := by
  cases hb : badB b j with
  | false => rfl
  | true => rw [bindF_no hj hb] at h; cases h
theorem bindF_len {b : List VPair} (h : bindF b = true) : b.length ≤ 6 := by
  rcases Nat.lt_or_ge 6 b.length with h1 | h1
  · rw [bindF_long (by omega)] at h; cases h
  · exact h1
theorem bindF_asc {b : List VPair} (h : bindF b = true) : ∀ (j : Nat), j + 1 < b.length → Op.bytesLess (b.getD j default).1 (b.getD (j + 1) default).1 = true := fun j hj => by
  have := bindF_lt h hj
  unfold badB at this
  simp only [Bool.or_eq_false_iff, Bool.and_eq_false_iff, decide_eq_false_iff_not, Bool.not_eq_false', Nat.add_sub_cancel] at this
  rcases this.2 with h1 | h1
  · omega
  · exact h1
theorem bindF_sorted {b : List VPair} (h : bindF b = true) : ∀ (d i : Nat), i + d + 1 < b.length → Op.bytesLess (b.getD i default).1 (b.getD (i + d + 1) default).1 = true
  | 0, i, hi => bindF_asc h i hi
  | d + 1, i, hi => blt_sto.trans _ _ _ (bindF_sorted h d i (by omega)) (bindF_asc h (i + d + 1) hi)
theorem bindF_apart {b : List VPair} (h : bindF b = true) {i j : Nat} (hij : i < j) (hj : j < b.length) : (b.getD i default).1 ≠ (b.getD j default).1 := fun e => by
  have := bindF_sorted h (j - i - 1) i (by omega)
  rw [show i + (j - i - 1) + 1 = j by omega, e, bl_irrefl] at this
  cases this
theorem mput_bind {b : List VPair} (h : bindF b = true) {i : Nat} (hi : i < b.length) : mput (b.take i) (b.getD i default).1 (b.getD i default).2 = b.take (i + 1) := by
  have hn : ∀ p ∈ b.take i, p.1 ≠ (b.getD i default).1 := fun p hp => by
    obtain ⟨j, hj⟩ := List.getElem?_of_mem hp
    rw [List.getElem?_take] at hj
    split at hj
    · rename_i hji
      have e : b.getD j default = p := by simp [List.getD, hj]
      rw [← e]; exact bindF_apart h hji hi
    · cases hj
  rw [(mget_no hn).2, take_succ' default hi]
theorem pmapOfPairs.lent (x y : List AV) (hx : PlainC x) (hy : PlainC y) (b : List VPair) (h : tPairs.size b ≤ 1048576) (hb : bindF b = true) :
    pmapOfPairs.Lent [.cells .var x, .cells .var y] [.list none (pairs b)] (fun r b1 f1 => r = .bmap 2 ∧ b1 = [.cells .var x, .cells .var y, .map b] ∧ f1 = []) := by
  refine pmapOfPairs.ofL rfl rfl ?_
  rw [tPairs_sz] at h
  skip
  refine ALoop.mk Nat (fun i => ⟨[(0, .list none (pairs b)), (3, .bmap 2), (7, .list none (pairs b)), (8, .val (.int .i64 b.length)), (9, .val (.int .i64 i))], [.cells .var x, .cells .var y, .map (b.take i)], []⟩) (fun i => i ≤ b.length) (fun i => b.length - i) ⟨0, Nat.zero_le _, ?_⟩ (fun i hi => ?_)
  · repeat' first
      | exact trivial | refine Weak.mk ?_ ?_ ?_ ?_ (Or.inl (Nat.le_of_ble_eq_true rfl)) | refine And.intro ?_ ?_ | with_reducible rfl | exact Nat.le_of_ble_eq_true rfl | refine AV.int_congr ?_ | refine AV.list_congr ?_ | (apply rfl)
    simp
  repeat' first
    | (conv => whnf
       first | refine Need.mk rfl ?_ | refine Need.mk ⟨rfl, Nat.le_of_ble_eq_true rfl⟩ ?_ | refine Need.mk (Nat.le_of_ble_eq_true rfl) ?_ | refine Need.mk ?_ ?_ | refine Ix.mapF (fun _ => rfl) ?_ | refine Fork.dec (fun _ => ?_) (fun _ => ?_) | refine Round.mk ?_ | refine LitO.own rfl ?_ | refine FinalC.allA ?_)
  all_goals try simp only [length_rows, length_strs, length_oldLL, List.length_map, Int.toNat_natCast] at *
  · have := pr_le (l := b) i
    have h2 : (b.take i).length ≤ b.length := by simp; omega
    unfold maxLen; omega
  · refine ⟨i + 1, by omega, ?_, by omega⟩
    repeat' first
      | exact trivial | refine Weak.mk ?_ ?_ ?_ ?_ (Or.inr ⟨(by repeat' first | exact trivial | exact Nat.le_of_ble_eq_true rfl | refine And.intro ?_ ?_ | exact hx.2 _ | exact hy.2 _), (by repeat' first | exact trivial | exact Nat.le_of_ble_eq_true rfl | refine And.intro ?_ ?_ | exact hx.2 _ | exact hy.2 _)⟩) | refine And.intro ?_ ?_ | with_reducible rfl | exact Nat.le_of_ble_eq_true rfl | refine AV.int_congr ?_ | refine AV.list_congr ?_ | (apply rfl) | refine bx_cons ?_ ?_ | refine bx_map ?_
    · rw [wrap64 (by omega) (by omega)]; rfl
    · show mput (b.take i) (b.getD i default).1 (b.getD i default).2 = _
      rw [mput_bind hb (by omega)]
  · simp [List.take_of_length_le (show b.length ≤ i by omega)]
def turnStep (m : List VPair) (p : Str × Str) : Option (List VPair) :=
  if varF p.1 then (match mget m p.1 with | some v => if v = p.2 then some m else none | none => some (mput m p.1 p.2)) else if p.1 = p.2 then some m else none
def turnS (m : List VPair) : List (Str × Str) → Option (List VPair)
  | [] => some m
  | p :: l => match turnStep m p with | some m' => turnS m' l | none => none
def turnF (m : List VPair) (a x : List Str) : Option (List VPair) := if a.length = x.length then turnS m (a.zip x) else none
theorem step_no {m : List VPair} {t x : Str} (h : varF t = false) (h' : t ≠ x) : turnStep m (t, x) = none := by simp [turnStep, h, h']
theorem step_eq {m : List VPair} {t x : Str} (h : varF t = false) (h' : t = x) : turnStep m (t, x) = some m := by subst h'; simp [turnStep, h]
theorem step_new {m : List VPair} {t x : Str} (h : varF t = true) (h' : mget m t = none) : turnStep m (t, x) = some (mput m t x) := by simp [turnStep, h, h']
theorem step_bad {m : List VPair} {t x v : Str} (h : varF t = true) (h' : mget m t = some v) (h2 : v ≠ x) : turnStep m (t, x) = none := by simp [turnStep, h, h', h2]
theorem step_old {m : List VPair} {t x v : Str} (h : varF t = true) (h' : mget m t = some v) (h2 : v = x) : turnStep m (t, x) = some m := by simp [turnStep, h, h', h2]
theorem zip_drop {a x : List Str} {i : Nat} (h1 : i < a.length) (h2 : i < x.length) : (a.zip x).drop i = (a.getD i [], x.getD i []) :: (a.zip x).drop (i + 1) := by
  have h : i < (a.zip x).length := by simp; omega
  rw [List.drop_eq_getElem_cons h]
  simp [List.getD, h1, h2]
theorem mput_len (m : List VPair) (k v : Str) : (mput m k v).length ≤ m.length + 1 := by
  induction m with
  | nil => simp [mput]
  | cons p m ih =>
    rw [mput]; split
    · simp
    · simp; exact ih
theorem pturnInto.lent (x y : List AV) (hx : PlainC x) (hy : PlainC y) (m : List VPair) (a z : List Str) (ha : a.length + listSize Ty.str a ≤ 1048576) (hz : z.length + listSize Ty.str z ≤ 1048576) (hm : m.length ≤ 1048576) :
    pturnInto.Lent [.cells .var x, .cells .var y, .map m] [.list none (strs a), .list none (strs z), .bmap 2]
      (fun r b1 f1 => ∃ m', r = .val (.bool (turnF m a z).isSome) ∧ b1 = [.cells .var x, .cells .var y, .map m'] ∧ f1 = [] ∧ ∀ m0, turnF m a z = some m0 → m' = m0) := by
  refine pturnInto.ofL rfl rfl ?_
  repeat' first
    | (conv => whnf
       first | refine Need.mk rfl ?_ | refine Fork.bne (fun _ => ?_) (fun _ => ?_) | refine LitO.own rfl ?_ | refine FinalC.allA ?_)
  all_goals try simp only [length_strs] at *
  · rename_i h
    have h : ¬ a.length = z.length := by omega
    exact ⟨m, by simp [turnF, h], by first | rfl | trivial, by first | rfl | trivial, by simp [turnF, h]⟩
  rename_i h
  have h : a.length = z.length := by omega
  refine ALoop.mk (Nat × List VPair) (fun i => ⟨[(0, .list none (strs a)), (1, .list none (strs z)), (2, .bmap 2), (16, .list none (strs a)), (17, .val (.int .i64 a.length)), (18, .val (.int .i64 i.1))], [.cells .var x, .cells .var y, .map i.2], []⟩)
    (fun i => i.1 ≤ a.length ∧ i.2.length ≤ m.length + i.1 ∧ turnS i.2 ((a.zip z).drop i.1) = turnS m (a.zip z)) (fun i => a.length - i.1) ⟨(0, m), ⟨Nat.zero_le _, by simp, rfl⟩, ?_⟩ (fun i hi => ?_)
  · repeat' first
      | exact trivial | refine Weak.mk ?_ ?_ ?_ ?_ (Or.inl (Nat.le_of_ble_eq_true rfl)) | refine And.intro ?_ ?_ | with_reducible rfl | exact Nat.le_of_ble_eq_true rfl | refine AV.int_congr ?_ | refine AV.list_congr ?_ | (apply rfl)
    simp
  obtain ⟨i, m'⟩ := i
  obtain ⟨hi, hml, ht⟩ := hi
  simp only at hi hml ht
  have fails : i < a.length → turnStep m' (a.getD i [], z.getD i []) = none → turnF m a z = none := fun hlt hs => by
    rw [zip_drop hlt (by omega), turnS, hs] at ht
    rw [turnF, if_pos h, ← ht]
  have goes : ∀ m'', i < a.length → turnStep m' (a.getD i [], z.getD i []) = some m'' → turnS m'' ((a.zip z).drop (i + 1)) = turnS m (a.zip z) := fun m'' hlt hs => by
    rw [zip_drop hlt (by omega), turnS, hs] at ht
    exact ht
  have hal := str_le' a i
  have hzl := str_le' z i
  repeat' first
    | contradiction
    | (conv => whnf
       first | refine Need.mk rfl ?_ | refine Need.mk ?_ ?_ | refine Ix.strsF rfl ?_ | refine Fork.dec (fun _ => ?_) (fun _ => ?_) | refine Fork.sne (fun _ => ?_) (fun _ => ?_) | refine Fork.neg (fun _ => ?_) (fun _ => ?_) | refine Round.mk ?_ | refine LitO.own rfl ?_ | refine FinalC.allA ?_ | refine ACall.scalA _ _ (pIsVar.ret _ ?_) rfl ?_)
  all_goals try simp only [length_rows, length_strs, length_oldLL, List.length_map, Int.toNat_natCast] at *
  · intro _; unfold maxLen; omega
  · omega
  · rename_i h1 h2 h3
    have hf := fails (by omega) (step_no h2 h3)
    exact ⟨m', by rw [hf]; rfl, by first | rfl | trivial, by first | rfl | trivial, by simp [hf]⟩
  · rename_i h1 h2 h3
    refine ⟨(i + 1, m'), ⟨by simp only; omega, by simp only; omega, goes m' (by omega) (step_eq h2 h3)⟩, ?_, by simp only; omega⟩
    repeat' first
      | exact trivial | refine Weak.mk ?_ ?_ ?_ ?_ (Or.inl (Nat.le_of_ble_eq_true rfl)) | refine And.intro ?_ ?_ | with_reducible rfl | exact Nat.le_of_ble_eq_true rfl | refine AV.int_congr ?_ | refine AV.list_congr ?_ | (apply rfl)
    rw [wrap64 (by omega) (by omega)]; rfl
  · unfold maxLen; omega
  · rename_i h1 h2 h3 h4
    have h3 : mget m' (a.getD i []) = none := by simpa using h3
    have hl := mput_len m' (a.getD i []) (z.getD i [])
    refine ⟨(i + 1, mput m' (a.getD i []) (z.getD i [])), ⟨by simp only; omega, by simp only; omega, goes _ (by omega) (step_new h2 h3)⟩, ?_, by simp only; omega⟩
    repeat' first
      | exact trivial | refine Weak.mk ?_ ?_ ?_ ?_ (Or.inl (Nat.le_of_ble_eq_true rfl)) | refine And.intro ?_ ?_ | with_reducible rfl | exact Nat.le_of_ble_eq_true rfl | refine AV.int_congr ?_ | refine AV.list_congr ?_ | (apply rfl)
    rw [wrap64 (by omega) (by omega)]; rfl
  · rename_i h1 h2 h3 h4
    obtain ⟨v, hv⟩ := Option.isSome_iff_exists.1 h3
    rw [hv] at h4
    have h4 : v ≠ z.getD i [] := h4
    have hf := fails (by omega) (step_bad h2 hv h4)
    exact ⟨m', by rw [hf]; rfl, by first | rfl | trivial, by first | rfl | trivial, by simp [hf]⟩
  · rename_i h1 h2 h3 h4
    obtain ⟨v, hv⟩ := Option.isSome_iff_exists.1 h3
    rw [hv] at h4
    have h4 : v = z.getD i [] := h4
    refine ⟨(i + 1, m'), ⟨by simp only; omega, by simp only; omega, goes m' (by omega) (step_old h2 hv h4)⟩, ?_, by simp only; omega⟩
    repeat' first
      | exact trivial | refine Weak.mk ?_ ?_ ?_ ?_ (Or.inl (Nat.le_of_ble_eq_true rfl)) | refine And.intro ?_ ?_ | with_reducible rfl | exact Nat.le_of_ble_eq_true rfl | refine AV.int_congr ?_ | refine AV.list_congr ?_ | (apply rfl)
    rw [wrap64 (by omega) (by omega)]; rfl
  · have e : (a.zip z).drop i = [] := List.drop_eq_nil_of_le (by simp; omega)
    rw [e, turnS] at ht
    have hf : turnF m a z = some m' := by rw [turnF, if_pos h, ← ht]
    exact ⟨m', by rw [hf]; rfl, by first | rfl | trivial, by first | rfl | trivial, by rw [hf]; intro m0 e; cases e; rfl⟩
def pairsM (m : List VPair) : List VPair := (srt (m.map (·.1))).map fun k => (k, (mget m k).getD [])
theorem srt_len (l : List Str) : (srt l).length = l.length := by simp [srt]
theorem slKeys.lent (x y : List AV) (hx : PlainC x) (hy : PlainC y) (m : List VPair) :
    slKeys.Lent [.cells .var x, .cells .var y, .map m] [.bmap 2] (fun r b1 f1 => r = .clo 123 [] [.bptr 3 0] ∧ b1 = [.cells .var x, .cells .var y, .map m, .cells .var [.bmap 2]] ∧ f1 = []) := by
  refine slKeys.ofL rfl rfl ?_
  repeat' first
    | (conv => whnf
       first | refine Need.mk rfl ?_ | refine Need.mk ?_ ?_ | refine LitO.own rfl ?_ | refine FinalC.allA ?_)
  · exact ⟨rfl, rfl⟩
  · exact ⟨rfl, rfl, rfl⟩
theorem srt_in {l : List Str} {s : Str} (h : s ∈ srt l) : s ∈ l := by simpa [srt] using h
theorem ppairsOfMap.lent (x y : List AV) (hx : PlainC x) (hy : PlainC y) (m : List VPair) (hm : m.length ≤ 1048576) (hl : ∀ p ∈ m, p.1.length ≤ 1048576) :
    Abs.Lent false Try.prog 54 [.cells .var x, .cells .var y, .map m] [.bmap 2]
      (fun r b1 f1 => r = .list (some 0) (pairs (pairsM m)) ∧ b1 = [.cells .var x, .cells .var y, .map m, .cells .var [.bmap 2]] ∧ f1 = [(50, 2, m.length), (9, 1, m.length)]) := by
  refine ppairsOfMap.ofL rfl rfl ?_
  have hk := slKeys.lent x y hx hy m
  have hs := slSortedS.lent [.cells .var x, .cells .var y, .map m, .cells .var [.bmap 2]] 3 2 m rfl rfl rfl hm
  have hlen : (srt (m.map (·.1))).length = m.length := by simp [srt]
  have hsl : ∀ i, ((srt (m.map (·.1))).getD i []).length ≤ 1048576 := fun i => by
    rcases Nat.lt_or_ge i (srt (m.map (·.1))).length with h | h
    · have h1 : (srt (m.map (·.1))).getD i [] ∈ srt (m.map (·.1)) := by simp [List.getD, h]
      obtain ⟨p, hp, e⟩ := List.mem_map.1 (srt_in h1)
      rw [← e]; exact hl p hp
    · have : (srt (m.map (·.1))).getD i [] = [] := by simp [List.getD, List.getElem?_eq_none h]
      rw [this]; exact Nat.zero_le _
  generalize hks : srt (m.map (·.1)) = ks at hs hlen hsl
  have hpm : pairsM m = ks.map fun k => (k, (mget m k).getD []) := by rw [pairsM, hks]
  repeat' first
    | (conv => whnf
       first | refine Need.mk rfl ?_ | refine LitO.own rfl ?_ | refine ACall.lentE _ _ _ _ _ (Lent.weak (hk)) (by repeat' first | exact Lends.nil | refine Lends.map _ ?_ | refine Lends.lend _ _ (by first | exact hx.1 | exact hy.1 | exact noTk_old _ | (intro c hc; rw [List.mem_singleton.1 hc]; rfl) | (intro c hc; cases hc; done)) ?_) (by repeat' first | exact SeesL.nil | refine SeesL.cons ?_ ?_ | exact Or.inl ⟨rfl, rfl⟩ | exact Or.inr (Sees0.str _) | exact Or.inr (Sees0.val _) | exact Or.inr (Sees0.olds _ _) | exact Or.inr (Sees0.old _) | exact Or.inr (Sees0.oldagg _)) ?_ | refine ACall.lentS _ _ _ _ _ (hs) (by repeat' first | exact Lends.nil | refine Lends.map _ ?_ | refine Lends.lend _ _ (by first | exact hx.1 | exact hy.1 | exact noTk_old _ | (intro c hc; rw [List.mem_singleton.1 hc]; rfl) | (intro c hc; cases hc; done)) ?_) (by repeat' first | exact SeesL.nil | refine SeesL.cons ?_ ?_ | exact Or.inl ⟨rfl, rfl⟩ | exact Or.inr (Sees0.str _) | exact Or.inr (Sees0.val _) | exact Or.inr (Sees0.olds _ _) | exact Or.inr (Sees0.old _) | exact Or.inr (Sees0.oldagg _)) ?_)
  refine ALoop.mk Nat (fun i => ⟨[(0, .bmap 2), (3, .list (some 0) (pairs ((ks.take i).map fun k => (k, (mget m k).getD [])))), (9, .list (some 1) (strs ks)), (10, .val (.int .i64 ks.length)), (11, .val (.int .i64 i))], [.cells .var x, .cells .var y, .map m, .cells .var [.bmap 2]], [(50, 2, ((ks.take i).map fun k => (k, (mget m k).getD [])).length), (9, 1, m.length)]⟩)
    (fun i => i ≤ ks.length) (fun i => ks.length - i) ⟨0, Nat.zero_le _, ?_⟩ (fun i hi => ?_)
  · repeat' first
      | exact trivial | refine Weak.mk ?_ ?_ ?_ ?_ (Or.inl (Nat.le_of_ble_eq_true rfl)) | refine And.intro ?_ ?_ | with_reducible rfl | exact Nat.le_of_ble_eq_true rfl | refine fr2 ?_ ?_ | refine AV.int_congr ?_ | refine AV.list_congr ?_ | (apply rfl)
    simp
  have hkn : i < ks.length → (ks.take (i + 1)).map (fun k => (k, (mget m k).getD [])) = (ks.take i).map (fun k => (k, (mget m k).getD [])) ++ [(ks.getD i [], (mget m (ks.getD i [])).getD [])] := fun h => by
    rw [take_succ' [] h, List.map_append]; rfl
  have hsi := hsl i
  have htl : ((ks.take i).map fun k => (k, (mget m k).getD [])).length ≤ ks.length := by simp; omega
  repeat' first
    | (conv => whnf
       first | refine Need.mk rfl ?_ | refine Need.mk ?_ ?_ | refine Ix.strsF rfl ?_ | refine Fork.dec (fun _ => ?_) (fun _ => ?_) | refine Round.mk ?_ | refine Lit.read rfl ?_ | refine LitO.own rfl ?_ | refine FinalC.allA ?_)
  all_goals try simp only [length_rows, length_strs, length_oldLL, List.length_map, Int.toNat_natCast] at *
  · intro _; unfold maxLen; omega
  · intro c hc; rw [List.mem_singleton.1 hc]; rfl
  · simp only [List.length_singleton]; omega
  · refine ⟨i + 1, by omega, ?_, by omega⟩
    repeat' first
      | exact trivial | refine Weak.mk ?_ ?_ ?_ ?_ (Or.inl (Nat.le_of_ble_eq_true rfl)) | refine And.intro ?_ ?_ | with_reducible rfl | exact Nat.le_of_ble_eq_true rfl | refine fr2 ?_ ?_ | refine AV.int_congr ?_ | refine AV.list_congr ?_ | (apply rfl)
    · rw [hkn (by omega)]; exact rows_snoc tPair ((ks.take i).map fun k => (k, (mget m k).getD [])) (ks.getD i [], (mget m (ks.getD i [])).getD [])
    · rw [wrap64 (by omega) (by omega)]; rfl
    · simp only [List.length_take, List.length_singleton]; omega
  · have e : ks.take i = ks := List.take_of_length_le (by omega)
    simp [e, hpm, hlen]
end Go.Proofs.Ytkbblglbbfdnpaa
