/-
  The evaluator's form of some functions of the translation, as the model has them.
-/
import Derived.Test.YtnpjjbolonbndaaIr
namespace Go.Proofs.Ytnpjjbolonbndaa
open Abs
def l1In.code : ACode := (.seq (.region false [s 6 (.mv (.const (.bool false)))]) (.seq (.region false [s 7 (.mv (t 0)), s 8 (.mv (t 1)), s 9 (.bin .geq (t 7) (t 8)), s 10 (.mv (t 9)), g 10 true 11 (.mv (t 0)), g 10 true 12 (.mv (t 2)), g 10 true 13 (.bin .leq (t 11) (t 12)), s 14 (.and (t 10) (t 13)), s 6 (.mv (t 14))]) .ret))
def l1In.keep : List Nat := [0, 1, 2, 6]
def l1In.res : List RRes := [.tmp 6]
theorem l1In.of {args : List AV} {r : AV} {frs : Fr} (hn : Nat.ble args.length Try.f35.ntmps = true) (h : aCode (Abs.Ret Try.prog) l1In.keep l1In.code (doneK l1In.res r frs) ⟨argEnv 0 args, [], []⟩) : Abs.Ret Try.prog 35 args r frs :=
  Abs.Ret.of_ir Try.func35 rfl (Nat.le_of_ble_eq_true hn) (by kernel_rfl) (by kernel_rfl) h
theorem l1In.ofS {args : List AV} {r : AV} (hr : isScalR r = true) (hn : Nat.ble args.length Try.f35.ntmps = true) (h : aCode (Abs.Ret Try.prog) l1In.keep l1In.code (doneS l1In.res r) ⟨argEnv 0 args, [], []⟩) : Abs.Ret Try.prog 35 args r [] :=
  Abs.Ret.of_irS hr Try.func35 rfl (Nat.le_of_ble_eq_true hn) (by kernel_rfl) (by kernel_rfl) h
abbrev l1In.Ret (args : List AV) (r : AV) (frs : Fr) : Prop := Abs.Ret Try.prog 35 args r frs
def isDigit.code : ACode := (.seq (.region false [s 2 (.mv (.const (.bool false)))]) (.seq (.region false [s 3 (.mv (t 0)), s 4 (.bin .leq (.const (.int .i32 48)) (t 3)), s 5 (.mv (t 4)), g 5 true 6 (.mv (t 0)), g 5 true 7 (.bin .leq (t 6) (.const (.int .i32 57))), s 8 (.and (t 5) (t 7)), s 2 (.mv (t 8))]) .ret))
def isDigit.keep : List Nat := [0, 2]
def isDigit.res : List RRes := [.tmp 2]
theorem isDigit.of {args : List AV} {r : AV} {frs : Fr} (hn : Nat.ble args.length Try.f37.ntmps = true) (h : aCode (Abs.Ret Try.prog) isDigit.keep isDigit.code (doneK isDigit.res r frs) ⟨argEnv 0 args, [], []⟩) : Abs.Ret Try.prog 37 args r frs :=
  Abs.Ret.of_ir Try.func37 rfl (Nat.le_of_ble_eq_true hn) (by kernel_rfl) (by kernel_rfl) h
theorem isDigit.ofS {args : List AV} {r : AV} (hr : isScalR r = true) (hn : Nat.ble args.length Try.f37.ntmps = true) (h : aCode (Abs.Ret Try.prog) isDigit.keep isDigit.code (doneS isDigit.res r) ⟨argEnv 0 args, [], []⟩) : Abs.Ret Try.prog 37 args r [] :=
  Abs.Ret.of_irS hr Try.func37 rfl (Nat.le_of_ble_eq_true hn) (by kernel_rfl) (by kernel_rfl) h
abbrev isDigit.Ret (args : List AV) (r : AV) (frs : Fr) : Prop := Abs.Ret Try.prog 37 args r frs
def isLetter.code : ACode := (.seq (.region false [s 2 (.mv (.const (.bool false)))]) (.seq (.region false [s 3 (.mv (t 0)), s 4 (.bin .leq (.const (.int .i32 97)) (t 3)), s 5 (.mv (t 4)), g 5 true 6 (.mv (t 0)), g 5 true 7 (.bin .leq (t 6) (.const (.int .i32 122))), s 8 (.and (t 5) (t 7)), s 2 (.mv (t 8))]) .ret))
def isLetter.keep : List Nat := [0, 2]
def isLetter.res : List RRes := [.tmp 2]
theorem isLetter.of {args : List AV} {r : AV} {frs : Fr} (hn : Nat.ble args.length Try.f38.ntmps = true) (h : aCode (Abs.Ret Try.prog) isLetter.keep isLetter.code (doneK isLetter.res r frs) ⟨argEnv 0 args, [], []⟩) : Abs.Ret Try.prog 38 args r frs :=
  Abs.Ret.of_ir Try.func38 rfl (Nat.le_of_ble_eq_true hn) (by kernel_rfl) (by kernel_rfl) h
theorem isLetter.ofS {args : List AV} {r : AV} (hr : isScalR r = true) (hn : Nat.ble args.length Try.f38.ntmps = true) (h : aCode (Abs.Ret Try.prog) isLetter.keep isLetter.code (doneS isLetter.res r) ⟨argEnv 0 args, [], []⟩) : Abs.Ret Try.prog 38 args r [] :=
  Abs.Ret.of_irS hr Try.func38 rfl (Nat.le_of_ble_eq_true hn) (by kernel_rfl) (by kernel_rfl) h
abbrev isLetter.Ret (args : List AV) (r : AV) (frs : Fr) : Prop := Abs.Ret Try.prog 38 args r frs
def sIsAtom.code : ACode := (.seq (.region false [s 2 (.mv (.const (.bool false)))]) (.seq (.seq (.region false [s 3 (.mv (.const (.int .i64 0)))]) (.block 0 (.loop (.seq (.seq (.region false [s 4 (.mv (t 3)), s 5 (.mv (t 0)), s 6 (.len true (t 5)), s 7 (.bin .lss (t 4) (t 6))]) (.cond (t 7) .skip (.exit 0))) (.seq (.block 1 (.seq (.region false [s 10 (.mv (t 0)), s 11 (.mv (t 3)), s 12 (.index (t 10) (t 11)), s 13 (.conv .i64 (t 12)), s 14 (.call 35 [(t 13), (.const (.int .i64 97)), (.const (.int .i64 122))]), s 15 (.not (t 14)), s 16 (.mv (t 15)), g 16 true 17 (.mv (t 0)), g 16 true 18 (.mv (t 3)), g 16 true 19 (.index (t 17) (t 18)), g 16 true 20 (.conv .i64 (t 19)), g 16 true 21 (.call 35 [(t 20), (.const (.int .i64 48)), (.const (.int .i64 57))]), g 16 true 22 (.not (t 21)), s 23 (.and (t 16) (t 22))]) (.cond (t 23) (.seq (.region false [s 2 (.mv (.const (.bool false)))]) .ret) .skip))) (.region false [s 8 (.mv (t 3)), s 9 (.bin .add (t 8) (.const (.int .i64 1))), s 3 (.mv (t 9))])))))) (.seq (.region false [s 24 (.mv (t 0)), s 25 (.len true (t 24)), s 26 (.call 35 [(t 25), (.const (.int .i64 1)), (.const (.int .i64 8))]), s 2 (.mv (t 26))]) .ret)))
def sIsAtom.keep : List Nat := [0, 2, 3]
def sIsAtom.res : List RRes := [.tmp 2]
theorem sIsAtom.of {args : List AV} {r : AV} {frs : Fr} (hn : Nat.ble args.length Try.f14.ntmps = true) (h : aCode (Abs.Ret Try.prog) sIsAtom.keep sIsAtom.code (doneK sIsAtom.res r frs) ⟨argEnv 0 args, [], []⟩) : Abs.Ret Try.prog 14 args r frs :=
  Abs.Ret.of_ir Try.func14 rfl (Nat.le_of_ble_eq_true hn) (by kernel_rfl) (by kernel_rfl) h
theorem sIsAtom.ofS {args : List AV} {r : AV} (hr : isScalR r = true) (hn : Nat.ble args.length Try.f14.ntmps = true) (h : aCode (Abs.Ret Try.prog) sIsAtom.keep sIsAtom.code (doneS sIsAtom.res r) ⟨argEnv 0 args, [], []⟩) : Abs.Ret Try.prog 14 args r [] :=
  Abs.Ret.of_irS hr Try.func14 rfl (Nat.le_of_ble_eq_true hn) (by kernel_rfl) (by kernel_rfl) h
abbrev sIsAtom.Ret (args : List AV) (r : AV) (frs : Fr) : Prop := Abs.Ret Try.prog 14 args r frs
def pIsAtom.code : ACode := (.seq (.region false [s 2 (.mv (.const (.bool false)))]) (.seq (.seq (.region false [s 5 (.mv (t 0)), s 6 (.bin .eql (t 5) (.const (.string (.mk #[])))), s 7 (.mv (t 6)), g 7 false 8 (.mv (t 0)), g 7 false 9 (.len true (t 8)), g 7 false 10 (.bin .gtr (t 9) (.const (.int .i64 8))), s 11 (.or (t 7) (t 10))]) (.cond (t 11) (.seq (.region false [s 2 (.mv (.const (.bool false)))]) .ret) .skip)) (.seq (.seq (.region false [s 12 (.mv (t 0)), s 13 (.range (t 12))]) (.block 0 (.loop (.seq (.region false [s 14 (.next (t 13)), s 15 (.extract (t 14) 0)]) (.seq (.cond (t 15) .skip (.exit 0)) (.block 1 (.seq (.region false [s 16 (.extract (t 14) 2), s 4 (.mv (t 16))]) (.seq (.region false [s 17 (.mv (t 4)), s 18 (.call 38 [(t 17)]), s 19 (.not (t 18)), s 20 (.mv (t 19)), g 20 true 21 (.mv (t 4)), g 20 true 22 (.call 37 [(t 21)]), g 20 true 23 (.not (t 22)), s 24 (.and (t 20) (t 23))]) (.cond (t 24) (.seq (.region false [s 2 (.mv (.const (.bool false)))]) .ret) .skip))))))))) (.seq (.region false [s 2 (.mv (.const (.bool true)))]) .ret))))
def pIsAtom.keep : List Nat := [0, 2, 4, 13, 14, 15]
def pIsAtom.res : List RRes := [.tmp 2]
theorem pIsAtom.of {args : List AV} {r : AV} {frs : Fr} (hn : Nat.ble args.length Try.f15.ntmps = true) (h : aCode (Abs.Ret Try.prog) pIsAtom.keep pIsAtom.code (doneK pIsAtom.res r frs) ⟨argEnv 0 args, [], []⟩) : Abs.Ret Try.prog 15 args r frs :=
  Abs.Ret.of_ir Try.func15 rfl (Nat.le_of_ble_eq_true hn) (by kernel_rfl) (by kernel_rfl) h
theorem pIsAtom.ofS {args : List AV} {r : AV} (hr : isScalR r = true) (hn : Nat.ble args.length Try.f15.ntmps = true) (h : aCode (Abs.Ret Try.prog) pIsAtom.keep pIsAtom.code (doneS pIsAtom.res r) ⟨argEnv 0 args, [], []⟩) : Abs.Ret Try.prog 15 args r [] :=
  Abs.Ret.of_irS hr Try.func15 rfl (Nat.le_of_ble_eq_true hn) (by kernel_rfl) (by kernel_rfl) h
abbrev pIsAtom.Ret (args : List AV) (r : AV) (frs : Fr) : Prop := Abs.Ret Try.prog 15 args r frs
def lawIsAtom.code : ACode := (.seq (.region false [s 2 (.mv (.const (.bool false)))]) (.seq (.seq (.region false [s 5 (.mv (t 0)), s 6 (.len true (t 5)), s 7 (.bin .gtr (t 6) (.const (.int .i64 1048576)))]) (.cond (t 7) (.seq (.region false [s 2 (.mv (.const (.bool true)))]) .ret) .skip)) (.seq (.region false [s 8 (.mv (t 0)), s 9 (.call 14 [(t 8)]), s 3 (.mv (t 9))]) (.seq (.region false [s 10 (.mv (t 0)), s 11 (.call 15 [(t 10)]), s 4 (.mv (t 11))]) (.seq (.seq (.region false [s 12 (.mv (t 4)), s 13 (.mv (t 3)), s 14 (.binb .neq (t 12) (t 13))]) (.cond (t 14) (.seq (.region false [s 2 (.mv (.const (.bool false)))]) .ret) .skip)) (.seq (.region false [s 2 (.mv (.const (.bool true)))]) .ret))))))
def lawIsAtom.keep : List Nat := [0, 2, 3, 4]
def lawIsAtom.res : List RRes := [.tmp 2]
theorem lawIsAtom.of {args : List AV} {r : AV} {frs : Fr} (hn : Nat.ble args.length Try.f4.ntmps = true) (h : aCode (Abs.Ret Try.prog) lawIsAtom.keep lawIsAtom.code (doneK lawIsAtom.res r frs) ⟨argEnv 0 args, [], []⟩) : Abs.Ret Try.prog 4 args r frs :=
  Abs.Ret.of_ir Try.func4 rfl (Nat.le_of_ble_eq_true hn) (by kernel_rfl) (by kernel_rfl) h
theorem lawIsAtom.ofS {args : List AV} {r : AV} (hr : isScalR r = true) (hn : Nat.ble args.length Try.f4.ntmps = true) (h : aCode (Abs.Ret Try.prog) lawIsAtom.keep lawIsAtom.code (doneS lawIsAtom.res r) ⟨argEnv 0 args, [], []⟩) : Abs.Ret Try.prog 4 args r [] :=
  Abs.Ret.of_irS hr Try.func4 rfl (Nat.le_of_ble_eq_true hn) (by kernel_rfl) (by kernel_rfl) h
abbrev lawIsAtom.Ret (args : List AV) (r : AV) (frs : Fr) : Prop := Abs.Ret Try.prog 4 args r frs
def sIsName.code : ACode := (.seq (.region false [s 2 (.mv (.const (.bool false)))]) (.seq (.region false [s 3 (.mv (t 0)), s 4 (.call 14 [(t 3)]), s 5 (.mv (t 4)), g 5 true 6 (.mv (t 0)), g 5 true 7 (.index (t 6) (.const (.int .i64 0))), g 5 true 8 (.conv .i64 (t 7)), g 5 true 9 (.call 35 [(t 8), (.const (.int .i64 97)), (.const (.int .i64 122))]), s 10 (.and (t 5) (t 9)), s 2 (.mv (t 10))]) .ret))
def sIsName.keep : List Nat := [0, 2]
def sIsName.res : List RRes := [.tmp 2]
theorem sIsName.of {args : List AV} {r : AV} {frs : Fr} (hn : Nat.ble args.length Try.f18.ntmps = true) (h : aCode (Abs.Ret Try.prog) sIsName.keep sIsName.code (doneK sIsName.res r frs) ⟨argEnv 0 args, [], []⟩) : Abs.Ret Try.prog 18 args r frs :=
  Abs.Ret.of_ir Try.func18 rfl (Nat.le_of_ble_eq_true hn) (by kernel_rfl) (by kernel_rfl) h
theorem sIsName.ofS {args : List AV} {r : AV} (hr : isScalR r = true) (hn : Nat.ble args.length Try.f18.ntmps = true) (h : aCode (Abs.Ret Try.prog) sIsName.keep sIsName.code (doneS sIsName.res r) ⟨argEnv 0 args, [], []⟩) : Abs.Ret Try.prog 18 args r [] :=
  Abs.Ret.of_irS hr Try.func18 rfl (Nat.le_of_ble_eq_true hn) (by kernel_rfl) (by kernel_rfl) h
abbrev sIsName.Ret (args : List AV) (r : AV) (frs : Fr) : Prop := Abs.Ret Try.prog 18 args r frs
def pIsName.code : ACode := (.seq (.region false [s 2 (.mv (.const (.bool false)))]) (.seq (.region false [s 3 (.mv (t 0)), s 4 (.call 15 [(t 3)]), s 5 (.mv (t 4)), g 5 true 6 (.mv (t 0)), g 5 true 7 (.index (t 6) (.const (.int .i64 0))), g 5 true 8 (.conv .i32 (t 7)), g 5 true 9 (.call 38 [(t 8)]), s 10 (.and (t 5) (t 9)), s 2 (.mv (t 10))]) .ret))
def pIsName.keep : List Nat := [0, 2]
def pIsName.res : List RRes := [.tmp 2]
theorem pIsName.of {args : List AV} {r : AV} {frs : Fr} (hn : Nat.ble args.length Try.f19.ntmps = true) (h : aCode (Abs.Ret Try.prog) pIsName.keep pIsName.code (doneK pIsName.res r frs) ⟨argEnv 0 args, [], []⟩) : Abs.Ret Try.prog 19 args r frs :=
  Abs.Ret.of_ir Try.func19 rfl (Nat.le_of_ble_eq_true hn) (by kernel_rfl) (by kernel_rfl) h
theorem pIsName.ofS {args : List AV} {r : AV} (hr : isScalR r = true) (hn : Nat.ble args.length Try.f19.ntmps = true) (h : aCode (Abs.Ret Try.prog) pIsName.keep pIsName.code (doneS pIsName.res r) ⟨argEnv 0 args, [], []⟩) : Abs.Ret Try.prog 19 args r [] :=
  Abs.Ret.of_irS hr Try.func19 rfl (Nat.le_of_ble_eq_true hn) (by kernel_rfl) (by kernel_rfl) h
abbrev pIsName.Ret (args : List AV) (r : AV) (frs : Fr) : Prop := Abs.Ret Try.prog 19 args r frs
def lawIsName.code : ACode := (.seq (.region false [s 2 (.mv (.const (.bool false)))]) (.seq (.seq (.region false [s 5 (.mv (t 0)), s 6 (.len true (t 5)), s 7 (.bin .gtr (t 6) (.const (.int .i64 1048576)))]) (.cond (t 7) (.seq (.region false [s 2 (.mv (.const (.bool true)))]) .ret) .skip)) (.seq (.region false [s 8 (.mv (t 0)), s 9 (.call 18 [(t 8)]), s 3 (.mv (t 9))]) (.seq (.region false [s 10 (.mv (t 0)), s 11 (.call 19 [(t 10)]), s 4 (.mv (t 11))]) (.seq (.seq (.region false [s 12 (.mv (t 4)), s 13 (.mv (t 3)), s 14 (.binb .neq (t 12) (t 13))]) (.cond (t 14) (.seq (.region false [s 2 (.mv (.const (.bool false)))]) .ret) .skip)) (.seq (.region false [s 2 (.mv (.const (.bool true)))]) .ret))))))
def lawIsName.keep : List Nat := [0, 2, 3, 4]
def lawIsName.res : List RRes := [.tmp 2]
theorem lawIsName.of {args : List AV} {r : AV} {frs : Fr} (hn : Nat.ble args.length Try.f6.ntmps = true) (h : aCode (Abs.Ret Try.prog) lawIsName.keep lawIsName.code (doneK lawIsName.res r frs) ⟨argEnv 0 args, [], []⟩) : Abs.Ret Try.prog 6 args r frs :=
  Abs.Ret.of_ir Try.func6 rfl (Nat.le_of_ble_eq_true hn) (by kernel_rfl) (by kernel_rfl) h
theorem lawIsName.ofS {args : List AV} {r : AV} (hr : isScalR r = true) (hn : Nat.ble args.length Try.f6.ntmps = true) (h : aCode (Abs.Ret Try.prog) lawIsName.keep lawIsName.code (doneS lawIsName.res r) ⟨argEnv 0 args, [], []⟩) : Abs.Ret Try.prog 6 args r [] :=
  Abs.Ret.of_irS hr Try.func6 rfl (Nat.le_of_ble_eq_true hn) (by kernel_rfl) (by kernel_rfl) h
abbrev lawIsName.Ret (args : List AV) (r : AV) (frs : Fr) : Prop := Abs.Ret Try.prog 6 args r frs
def sIsVar.code : ACode := (.seq (.region false [s 2 (.mv (.const (.bool false)))]) (.seq (.region false [s 3 (.mv (t 0)), s 4 (.len true (t 3)), s 5 (.bin .gtr (t 4) (.const (.int .i64 1))), s 6 (.mv (t 5)), g 6 true 7 (.mv (t 0)), g 6 true 8 (.index (t 7) (.const (.int .i64 0))), g 6 true 9 (.bin .eql (t 8) (.const (.int .u8 63))), s 10 (.and (t 6) (t 9)), s 11 (.mv (t 10)), g 11 true 12 (.mv (t 0)), g 11 true 13 (.slice true 0 (t 12) (some (.const (.int .i64 1))) none), g 11 true 14 (.call 14 [(t 13)]), s 15 (.and (t 11) (t 14)), s 2 (.mv (t 15))]) .ret))
def sIsVar.keep : List Nat := [0, 2]
def sIsVar.res : List RRes := [.tmp 2]
theorem sIsVar.of {args : List AV} {r : AV} {frs : Fr} (hn : Nat.ble args.length Try.f20.ntmps = true) (h : aCode (Abs.Ret Try.prog) sIsVar.keep sIsVar.code (doneK sIsVar.res r frs) ⟨argEnv 0 args, [], []⟩) : Abs.Ret Try.prog 20 args r frs :=
  Abs.Ret.of_ir Try.func20 rfl (Nat.le_of_ble_eq_true hn) (by kernel_rfl) (by kernel_rfl) h
theorem sIsVar.ofS {args : List AV} {r : AV} (hr : isScalR r = true) (hn : Nat.ble args.length Try.f20.ntmps = true) (h : aCode (Abs.Ret Try.prog) sIsVar.keep sIsVar.code (doneS sIsVar.res r) ⟨argEnv 0 args, [], []⟩) : Abs.Ret Try.prog 20 args r [] :=
  Abs.Ret.of_irS hr Try.func20 rfl (Nat.le_of_ble_eq_true hn) (by kernel_rfl) (by kernel_rfl) h
abbrev sIsVar.Ret (args : List AV) (r : AV) (frs : Fr) : Prop := Abs.Ret Try.prog 20 args r frs
def pIsVar.code : ACode := (.seq (.region false [s 2 (.mv (.const (.bool false)))]) (.seq (.region false [s 6 (.mv (t 0)), s 7 (.call 39 [(t 6), (.const (.string (.mk #[63])))]), s 5 (.mv (t 7)), s 8 (.extract (t 5) 0), s 9 (.extract (t 5) 1), s 3 (.mv (t 8)), s 4 (.mv (t 9))]) (.seq (.region false [s 10 (.mv (t 4)), s 11 (.mv (t 10)), g 11 true 12 (.mv (t 3)), g 11 true 13 (.call 15 [(t 12)]), s 14 (.and (t 11) (t 13)), s 2 (.mv (t 14))]) .ret)))
def pIsVar.keep : List Nat := [0, 2, 3, 4]
def pIsVar.res : List RRes := [.tmp 2]
theorem pIsVar.of {args : List AV} {r : AV} {frs : Fr} (hn : Nat.ble args.length Try.f21.ntmps = true) (h : aCode (Abs.Ret Try.prog) pIsVar.keep pIsVar.code (doneK pIsVar.res r frs) ⟨argEnv 0 args, [], []⟩) : Abs.Ret Try.prog 21 args r frs :=
  Abs.Ret.of_ir Try.func21 rfl (Nat.le_of_ble_eq_true hn) (by kernel_rfl) (by kernel_rfl) h
theorem pIsVar.ofS {args : List AV} {r : AV} (hr : isScalR r = true) (hn : Nat.ble args.length Try.f21.ntmps = true) (h : aCode (Abs.Ret Try.prog) pIsVar.keep pIsVar.code (doneS pIsVar.res r) ⟨argEnv 0 args, [], []⟩) : Abs.Ret Try.prog 21 args r [] :=
  Abs.Ret.of_irS hr Try.func21 rfl (Nat.le_of_ble_eq_true hn) (by kernel_rfl) (by kernel_rfl) h
abbrev pIsVar.Ret (args : List AV) (r : AV) (frs : Fr) : Prop := Abs.Ret Try.prog 21 args r frs
def lawIsVar.code : ACode := (.seq (.region false [s 2 (.mv (.const (.bool false)))]) (.seq (.seq (.region false [s 5 (.mv (t 0)), s 6 (.len true (t 5)), s 7 (.bin .gtr (t 6) (.const (.int .i64 1048576)))]) (.cond (t 7) (.seq (.region false [s 2 (.mv (.const (.bool true)))]) .ret) .skip)) (.seq (.region false [s 8 (.mv (t 0)), s 9 (.call 20 [(t 8)]), s 3 (.mv (t 9))]) (.seq (.region false [s 10 (.mv (t 0)), s 11 (.call 21 [(t 10)]), s 4 (.mv (t 11))]) (.seq (.seq (.region false [s 12 (.mv (t 4)), s 13 (.mv (t 3)), s 14 (.binb .neq (t 12) (t 13))]) (.cond (t 14) (.seq (.region false [s 2 (.mv (.const (.bool false)))]) .ret) .skip)) (.seq (.region false [s 2 (.mv (.const (.bool true)))]) .ret))))))
def lawIsVar.keep : List Nat := [0, 2, 3, 4]
def lawIsVar.res : List RRes := [.tmp 2]
theorem lawIsVar.of {args : List AV} {r : AV} {frs : Fr} (hn : Nat.ble args.length Try.f7.ntmps = true) (h : aCode (Abs.Ret Try.prog) lawIsVar.keep lawIsVar.code (doneK lawIsVar.res r frs) ⟨argEnv 0 args, [], []⟩) : Abs.Ret Try.prog 7 args r frs :=
  Abs.Ret.of_ir Try.func7 rfl (Nat.le_of_ble_eq_true hn) (by kernel_rfl) (by kernel_rfl) h
theorem lawIsVar.ofS {args : List AV} {r : AV} (hr : isScalR r = true) (hn : Nat.ble args.length Try.f7.ntmps = true) (h : aCode (Abs.Ret Try.prog) lawIsVar.keep lawIsVar.code (doneS lawIsVar.res r) ⟨argEnv 0 args, [], []⟩) : Abs.Ret Try.prog 7 args r [] :=
  Abs.Ret.of_irS hr Try.func7 rfl (Nat.le_of_ble_eq_true hn) (by kernel_rfl) (by kernel_rfl) h
abbrev lawIsVar.Ret (args : List AV) (r : AV) (frs : Fr) : Prop := Abs.Ret Try.prog 7 args r frs
def sIsTerm.code : ACode := (.seq (.region false [s 2 (.mv (.const (.bool false)))]) (.seq (.region false [s 3 (.mv (t 0)), s 4 (.call 14 [(t 3)]), s 5 (.mv (t 4)), g 5 false 6 (.mv (t 0)), g 5 false 7 (.call 20 [(t 6)]), s 8 (.or (t 5) (t 7)), s 2 (.mv (t 8))]) .ret))
def sIsTerm.keep : List Nat := [0, 2]
def sIsTerm.res : List RRes := [.tmp 2]
theorem sIsTerm.of {args : List AV} {r : AV} {frs : Fr} (hn : Nat.ble args.length Try.f22.ntmps = true) (h : aCode (Abs.Ret Try.prog) sIsTerm.keep sIsTerm.code (doneK sIsTerm.res r frs) ⟨argEnv 0 args, [], []⟩) : Abs.Ret Try.prog 22 args r frs :=
  Abs.Ret.of_ir Try.func22 rfl (Nat.le_of_ble_eq_true hn) (by kernel_rfl) (by kernel_rfl) h
theorem sIsTerm.ofS {args : List AV} {r : AV} (hr : isScalR r = true) (hn : Nat.ble args.length Try.f22.ntmps = true) (h : aCode (Abs.Ret Try.prog) sIsTerm.keep sIsTerm.code (doneS sIsTerm.res r) ⟨argEnv 0 args, [], []⟩) : Abs.Ret Try.prog 22 args r [] :=
  Abs.Ret.of_irS hr Try.func22 rfl (Nat.le_of_ble_eq_true hn) (by kernel_rfl) (by kernel_rfl) h
abbrev sIsTerm.Ret (args : List AV) (r : AV) (frs : Fr) : Prop := Abs.Ret Try.prog 22 args r frs
def pIsTerm.code : ACode := (.seq (.region false [s 2 (.mv (.const (.bool false)))]) (.seq (.region false [s 3 (.mv (t 0)), s 4 (.call 15 [(t 3)]), s 5 (.mv (t 4)), g 5 false 6 (.mv (t 0)), g 5 false 7 (.call 21 [(t 6)]), s 8 (.or (t 5) (t 7)), s 2 (.mv (t 8))]) .ret))
def pIsTerm.keep : List Nat := [0, 2]
def pIsTerm.res : List RRes := [.tmp 2]
theorem pIsTerm.of {args : List AV} {r : AV} {frs : Fr} (hn : Nat.ble args.length Try.f23.ntmps = true) (h : aCode (Abs.Ret Try.prog) pIsTerm.keep pIsTerm.code (doneK pIsTerm.res r frs) ⟨argEnv 0 args, [], []⟩) : Abs.Ret Try.prog 23 args r frs :=
  Abs.Ret.of_ir Try.func23 rfl (Nat.le_of_ble_eq_true hn) (by kernel_rfl) (by kernel_rfl) h
theorem pIsTerm.ofS {args : List AV} {r : AV} (hr : isScalR r = true) (hn : Nat.ble args.length Try.f23.ntmps = true) (h : aCode (Abs.Ret Try.prog) pIsTerm.keep pIsTerm.code (doneS pIsTerm.res r) ⟨argEnv 0 args, [], []⟩) : Abs.Ret Try.prog 23 args r [] :=
  Abs.Ret.of_irS hr Try.func23 rfl (Nat.le_of_ble_eq_true hn) (by kernel_rfl) (by kernel_rfl) h
abbrev pIsTerm.Ret (args : List AV) (r : AV) (frs : Fr) : Prop := Abs.Ret Try.prog 23 args r frs
def lawIsTerm.code : ACode := (.seq (.region false [s 2 (.mv (.const (.bool false)))]) (.seq (.seq (.region false [s 5 (.mv (t 0)), s 6 (.len true (t 5)), s 7 (.bin .gtr (t 6) (.const (.int .i64 1048576)))]) (.cond (t 7) (.seq (.region false [s 2 (.mv (.const (.bool true)))]) .ret) .skip)) (.seq (.region false [s 8 (.mv (t 0)), s 9 (.call 22 [(t 8)]), s 3 (.mv (t 9))]) (.seq (.region false [s 10 (.mv (t 0)), s 11 (.call 23 [(t 10)]), s 4 (.mv (t 11))]) (.seq (.seq (.region false [s 12 (.mv (t 4)), s 13 (.mv (t 3)), s 14 (.binb .neq (t 12) (t 13))]) (.cond (t 14) (.seq (.region false [s 2 (.mv (.const (.bool false)))]) .ret) .skip)) (.seq (.region false [s 2 (.mv (.const (.bool true)))]) .ret))))))
def lawIsTerm.keep : List Nat := [0, 2, 3, 4]
def lawIsTerm.res : List RRes := [.tmp 2]
theorem lawIsTerm.of {args : List AV} {r : AV} {frs : Fr} (hn : Nat.ble args.length Try.f8.ntmps = true) (h : aCode (Abs.Ret Try.prog) lawIsTerm.keep lawIsTerm.code (doneK lawIsTerm.res r frs) ⟨argEnv 0 args, [], []⟩) : Abs.Ret Try.prog 8 args r frs :=
  Abs.Ret.of_ir Try.func8 rfl (Nat.le_of_ble_eq_true hn) (by kernel_rfl) (by kernel_rfl) h
theorem lawIsTerm.ofS {args : List AV} {r : AV} (hr : isScalR r = true) (hn : Nat.ble args.length Try.f8.ntmps = true) (h : aCode (Abs.Ret Try.prog) lawIsTerm.keep lawIsTerm.code (doneS lawIsTerm.res r) ⟨argEnv 0 args, [], []⟩) : Abs.Ret Try.prog 8 args r [] :=
  Abs.Ret.of_irS hr Try.func8 rfl (Nat.le_of_ble_eq_true hn) (by kernel_rfl) (by kernel_rfl) h
abbrev lawIsTerm.Ret (args : List AV) (r : AV) (frs : Fr) : Prop := Abs.Ret Try.prog 8 args r frs
def cutPrefix.code : ACode := (.seq (.region false [s 4 (.mv (.const (.string (.mk #[])))), s 5 (.mv (.const (.bool false)))]) (.seq (.region false [s 6 (.mv (t 0)), s 7 (.mv (t 1)), s 8 (.call 49 [(t 6), (t 7)]), s 9 (.extract (t 8) 0), s 10 (.extract (t 8) 1), s 4 (.mv (t 9)), s 5 (.mv (t 10))]) .ret))
def cutPrefix.keep : List Nat := [0, 1, 4, 5]
def cutPrefix.res : List RRes := [.tmp 4, .tmp 5]
theorem cutPrefix.of {args : List AV} {r : AV} {frs : Fr} (hn : Nat.ble args.length Try.f39.ntmps = true) (h : aCode (Abs.Ret Try.prog) cutPrefix.keep cutPrefix.code (doneK cutPrefix.res r frs) ⟨argEnv 0 args, [], []⟩) : Abs.Ret Try.prog 39 args r frs :=
  Abs.Ret.of_ir Try.func39 rfl (Nat.le_of_ble_eq_true hn) (by kernel_rfl) (by kernel_rfl) h
theorem cutPrefix.ofS {args : List AV} {r : AV} (hr : isScalR r = true) (hn : Nat.ble args.length Try.f39.ntmps = true) (h : aCode (Abs.Ret Try.prog) cutPrefix.keep cutPrefix.code (doneS cutPrefix.res r) ⟨argEnv 0 args, [], []⟩) : Abs.Ret Try.prog 39 args r [] :=
  Abs.Ret.of_irS hr Try.func39 rfl (Nat.le_of_ble_eq_true hn) (by kernel_rfl) (by kernel_rfl) h
abbrev cutPrefix.Ret (args : List AV) (r : AV) (frs : Fr) : Prop := Abs.Ret Try.prog 39 args r frs
def slCutPrefix.code : ACode := (.seq (.region false [s 4 (.mv (.const (.string (.mk #[])))), s 5 (.mv (.const (.bool false)))]) (.seq (.seq (.region false [s 6 (.mv (t 0)), s 7 (.mv (t 1)), s 8 (.call 57 [(t 6), (t 7)]), s 9 (.not (t 8))]) (.cond (t 9) (.seq (.region false [s 10 (.mv (t 0)), s 4 (.mv (t 10)), s 5 (.mv (.const (.bool false)))]) .ret) .skip)) (.seq (.region false [s 11 (.mv (t 0)), s 12 (.mv (t 1)), s 13 (.len true (t 12)), s 14 (.slice true 0 (t 11) (some (t 13)) none), s 4 (.mv (t 14)), s 5 (.mv (.const (.bool true)))]) .ret)))
def slCutPrefix.keep : List Nat := [0, 1, 4, 5]
def slCutPrefix.res : List RRes := [.tmp 4, .tmp 5]
theorem slCutPrefix.of {args : List AV} {r : AV} {frs : Fr} (hn : Nat.ble args.length Try.f49.ntmps = true) (h : aCode (Abs.Ret Try.prog) slCutPrefix.keep slCutPrefix.code (doneK slCutPrefix.res r frs) ⟨argEnv 0 args, [], []⟩) : Abs.Ret Try.prog 49 args r frs :=
  Abs.Ret.of_ir Try.func49 rfl (Nat.le_of_ble_eq_true hn) (by kernel_rfl) (by kernel_rfl) h
theorem slCutPrefix.ofS {args : List AV} {r : AV} (hr : isScalR r = true) (hn : Nat.ble args.length Try.f49.ntmps = true) (h : aCode (Abs.Ret Try.prog) slCutPrefix.keep slCutPrefix.code (doneS slCutPrefix.res r) ⟨argEnv 0 args, [], []⟩) : Abs.Ret Try.prog 49 args r [] :=
  Abs.Ret.of_irS hr Try.func49 rfl (Nat.le_of_ble_eq_true hn) (by kernel_rfl) (by kernel_rfl) h
abbrev slCutPrefix.Ret (args : List AV) (r : AV) (frs : Fr) : Prop := Abs.Ret Try.prog 49 args r frs
def slHasPrefix.code : ACode := (.seq (.region false [s 4 (.mv (.const (.bool false)))]) (.seq (.region false [s 5 (.mv (t 0)), s 6 (.len true (t 5)), s 7 (.mv (t 1)), s 8 (.len true (t 7)), s 9 (.bin .geq (t 6) (t 8)), s 10 (.mv (t 9)), g 10 true 11 (.mv (t 0)), g 10 true 12 (.mv (t 1)), g 10 true 13 (.len true (t 12)), g 10 true 14 (.slice true 0 (t 11) none (some (t 13))), g 10 true 15 (.mv (t 1)), g 10 true 16 (.bin .eql (t 14) (t 15)), s 17 (.and (t 10) (t 16)), s 4 (.mv (t 17))]) .ret))
def slHasPrefix.keep : List Nat := [0, 1, 4]
def slHasPrefix.res : List RRes := [.tmp 4]
theorem slHasPrefix.of {args : List AV} {r : AV} {frs : Fr} (hn : Nat.ble args.length Try.f57.ntmps = true) (h : aCode (Abs.Ret Try.prog) slHasPrefix.keep slHasPrefix.code (doneK slHasPrefix.res r frs) ⟨argEnv 0 args, [], []⟩) : Abs.Ret Try.prog 57 args r frs :=
  Abs.Ret.of_ir Try.func57 rfl (Nat.le_of_ble_eq_true hn) (by kernel_rfl) (by kernel_rfl) h
theorem slHasPrefix.ofS {args : List AV} {r : AV} (hr : isScalR r = true) (hn : Nat.ble args.length Try.f57.ntmps = true) (h : aCode (Abs.Ret Try.prog) slHasPrefix.keep slHasPrefix.code (doneS slHasPrefix.res r) ⟨argEnv 0 args, [], []⟩) : Abs.Ret Try.prog 57 args r [] :=
  Abs.Ret.of_irS hr Try.func57 rfl (Nat.le_of_ble_eq_true hn) (by kernel_rfl) (by kernel_rfl) h
abbrev slHasPrefix.Ret (args : List AV) (r : AV) (frs : Fr) : Prop := Abs.Ret Try.prog 57 args r frs
def sFormatInt.code : ACode := (.seq (.region false [s 2 (.mv (.const (.string (.mk #[]))))]) (.seq (.seq (.region false [s 4 (.mv (t 0)), s 5 (.bin .eql (t 4) (.const (.int .i64 (-9223372036854775808))))]) (.cond (t 5) (.seq (.region false [s 2 (.mv (.const (.string (.mk #[45, 57, 50, 50, 51, 51, 55, 50, 48, 51, 54, 56, 53, 52, 55, 55, 53, 56, 48, 56]))))]) .ret) .skip)) (.seq (.seq (.region false [s 6 (.mv (t 0)), s 7 (.bin .lss (t 6) (.const (.int .i64 0)))]) (.cond (t 7) (.seq (.region false [s 8 (.mv (t 0)), s 9 .other, s 10 (.call 36 [(t 9)]), s 11 (.bin .add (.const (.string (.mk #[45]))) (t 10)), s 2 (.mv (t 11))]) .ret) .skip)) (.seq (.region false [s 3 (.mv (.const (.string (.mk #[]))))]) (.block 0 (.loop (.block 1 (.seq (.region false [s 12 (.mv (t 0)), s 13 (.bin .rem (t 12) (.const (.int .i64 10))), s 14 (.bin .add (.const (.int .i64 48)) (t 13)), s 15 (.conv .u8 (t 14)), s 16 (.bslice 5 1 true [(t 15)]), s 17 (.b2s (t 16)), s 18 (.mv (t 3)), s 19 (.bin .add (t 17) (t 18)), s 3 (.mv (t 19))]) (.seq (.region false [s 20 (.mv (t 0)), s 21 (.bin .quo (t 20) (.const (.int .i64 10))), s 0 (.mv (t 21))]) (.seq (.region false [s 22 (.mv (t 0)), s 23 (.bin .eql (t 22) (.const (.int .i64 0)))]) (.cond (t 23) (.seq (.region false [s 24 (.mv (t 3)), s 2 (.mv (t 24))]) .ret) .skip)))))))))))
def sFormatInt.keep : List Nat := [0, 2, 3]
def sFormatInt.res : List RRes := [.tmp 2]
theorem sFormatInt.of {args : List AV} {r : AV} {frs : Fr} (hn : Nat.ble args.length Try.f36.ntmps = true) (h : aCode (Abs.Ret Try.prog) sFormatInt.keep sFormatInt.code (doneK sFormatInt.res r frs) ⟨argEnv 0 args, [], []⟩) : Abs.Ret Try.prog 36 args r frs :=
  Abs.Ret.of_ir Try.func36 rfl (Nat.le_of_ble_eq_true hn) (by kernel_rfl) (by kernel_rfl) h
theorem sFormatInt.ofS {args : List AV} {r : AV} (hr : isScalR r = true) (hn : Nat.ble args.length Try.f36.ntmps = true) (h : aCode (Abs.Ret Try.prog) sFormatInt.keep sFormatInt.code (doneS sFormatInt.res r) ⟨argEnv 0 args, [], []⟩) : Abs.Ret Try.prog 36 args r [] :=
  Abs.Ret.of_irS hr Try.func36 rfl (Nat.le_of_ble_eq_true hn) (by kernel_rfl) (by kernel_rfl) h
abbrev sFormatInt.Ret (args : List AV) (r : AV) (frs : Fr) : Prop := Abs.Ret Try.prog 36 args r frs
def sParseInt.code : ACode := (.seq (.region false [s 2 (.mv (.const (.int .i64 0))), s 3 (.mv (.const (.bool false)))]) (.seq (.seq (.region false [s 6 (.mv (t 0)), s 7 (.len true (t 6)), s 8 (.call 35 [(t 7), (.const (.int .i64 1)), (.const (.int .i64 4))]), s 9 (.not (t 8))]) (.cond (t 9) (.seq (.region false [s 2 (.mv (.const (.int .i64 0))), s 3 (.mv (.const (.bool false)))]) .ret) .skip)) (.seq (.region false [s 4 (.mv (.const (.int .i64 0)))]) (.seq (.seq (.region false [s 5 (.mv (.const (.int .i64 0)))]) (.block 0 (.loop (.seq (.seq (.region false [s 10 (.mv (t 5)), s 11 (.mv (t 0)), s 12 (.len true (t 11)), s 13 (.bin .lss (t 10) (t 12))]) (.cond (t 13) .skip (.exit 0))) (.seq (.block 1 (.seq (.seq (.region false [s 16 (.mv (t 0)), s 17 (.mv (t 5)), s 18 (.index (t 16) (t 17)), s 19 (.bin .lss (t 18) (.const (.int .u8 48))), s 20 (.mv (t 19)), g 20 false 21 (.mv (t 0)), g 20 false 22 (.mv (t 5)), g 20 false 23 (.index (t 21) (t 22)), g 20 false 24 (.bin .gtr (t 23) (.const (.int .u8 57))), s 25 (.or (t 20) (t 24))]) (.cond (t 25) (.seq (.region false [s 2 (.mv (.const (.int .i64 0))), s 3 (.mv (.const (.bool false)))]) .ret) .skip)) (.region false [s 26 (.mv (t 4)), s 27 (.bin .mul (.const (.int .i64 10)) (t 26)), s 28 (.mv (t 0)), s 29 (.mv (t 5)), s 30 (.index (t 28) (t 29)), s 31 (.bin .sub (t 30) (.const (.int .u8 48))), s 32 (.conv .i64 (t 31)), s 33 (.bin .add (t 27) (t 32)), s 4 (.mv (t 33))]))) (.region false [s 14 (.mv (t 5)), s 15 (.bin .add (t 14) (.const (.int .i64 1))), s 5 (.mv (t 15))])))))) (.seq (.seq (.region false [s 34 (.mv (t 4)), s 35 (.call 36 [(t 34)]), s 36 (.mv (t 0)), s 37 (.bin .neq (t 35) (t 36))]) (.cond (t 37) (.seq (.region false [s 2 (.mv (.const (.int .i64 0))), s 3 (.mv (.const (.bool false)))]) .ret) .skip)) (.seq (.region false [s 38 (.mv (t 4)), s 2 (.mv (t 38)), s 3 (.mv (.const (.bool true)))]) .ret))))))
def sParseInt.keep : List Nat := [0, 2, 3, 4, 5]
def sParseInt.res : List RRes := [.tmp 2, .tmp 3]
theorem sParseInt.of {args : List AV} {r : AV} {frs : Fr} (hn : Nat.ble args.length Try.f12.ntmps = true) (h : aCode (Abs.Ret Try.prog) sParseInt.keep sParseInt.code (doneK sParseInt.res r frs) ⟨argEnv 0 args, [], []⟩) : Abs.Ret Try.prog 12 args r frs :=
  Abs.Ret.of_ir Try.func12 rfl (Nat.le_of_ble_eq_true hn) (by kernel_rfl) (by kernel_rfl) h
theorem sParseInt.ofS {args : List AV} {r : AV} (hr : isScalR r = true) (hn : Nat.ble args.length Try.f12.ntmps = true) (h : aCode (Abs.Ret Try.prog) sParseInt.keep sParseInt.code (doneS sParseInt.res r) ⟨argEnv 0 args, [], []⟩) : Abs.Ret Try.prog 12 args r [] :=
  Abs.Ret.of_irS hr Try.func12 rfl (Nat.le_of_ble_eq_true hn) (by kernel_rfl) (by kernel_rfl) h
abbrev sParseInt.Ret (args : List AV) (r : AV) (frs : Fr) : Prop := Abs.Ret Try.prog 12 args r frs
def pParseInt.code : ACode := (.seq (.region false [s 2 (.mv (.const (.int .i64 0))), s 3 (.mv (.const (.bool false)))]) (.seq (.seq (.region false [s 7 (.mv (t 0)), s 8 (.bin .eql (t 7) (.const (.string (.mk #[])))), s 9 (.mv (t 8)), g 9 false 10 (.mv (t 0)), g 9 false 11 (.len true (t 10)), g 9 false 12 (.bin .gtr (t 11) (.const (.int .i64 1))), g 9 false 13 (.mv (t 12)), g 13 true 14 (.mv (t 0)), g 13 true 15 (.index (t 14) (.const (.int .i64 0))), g 13 true 16 (.bin .eql (t 15) (.const (.int .u8 48))), g 9 false 17 (.and (t 13) (t 16)), s 18 (.or (t 9) (t 17))]) (.cond (t 18) (.seq (.region false [s 2 (.mv (.const (.int .i64 0))), s 3 (.mv (.const (.bool false)))]) .ret) .skip)) (.seq (.region false [s 4 (.mv (.const (.int .i64 0)))]) (.seq (.seq (.region false [s 19 (.mv (t 0)), s 20 (.range (t 19))]) (.block 0 (.loop (.seq (.region false [s 21 (.next (t 20)), s 22 (.extract (t 21) 0)]) (.seq (.cond (t 22) .skip (.exit 0)) (.block 1 (.seq (.region false [s 23 (.extract (t 21) 2), s 6 (.mv (t 23))]) (.seq (.seq (.region false [s 24 (.mv (t 6)), s 25 (.call 37 [(t 24)]), s 26 (.not (t 25))]) (.cond (t 26) (.seq (.region false [s 2 (.mv (.const (.int .i64 0))), s 3 (.mv (.const (.bool false)))]) .ret) .skip)) (.seq (.region false [s 27 (.mv (t 4)), s 28 (.bin .mul (.const (.int .i64 10)) (t 27)), s 29 (.mv (t 6)), s 30 (.bin .sub (t 29) (.const (.int .i32 48))), s 31 (.conv .i64 (t 30)), s 32 (.bin .add (t 28) (t 31)), s 4 (.mv (t 32))]) (.seq (.region false [s 33 (.mv (t 4)), s 34 (.bin .gtr (t 33) (.const (.int .i64 9999)))]) (.cond (t 34) (.seq (.region false [s 2 (.mv (.const (.int .i64 0))), s 3 (.mv (.const (.bool false)))]) .ret) .skip))))))))))) (.seq (.region false [s 35 (.mv (t 4)), s 2 (.mv (t 35)), s 3 (.mv (.const (.bool true)))]) .ret)))))
def pParseInt.keep : List Nat := [0, 2, 3, 4, 6, 20, 21, 22]
def pParseInt.res : List RRes := [.tmp 2, .tmp 3]
theorem pParseInt.of {args : List AV} {r : AV} {frs : Fr} (hn : Nat.ble args.length Try.f13.ntmps = true) (h : aCode (Abs.Ret Try.prog) pParseInt.keep pParseInt.code (doneK pParseInt.res r frs) ⟨argEnv 0 args, [], []⟩) : Abs.Ret Try.prog 13 args r frs :=
  Abs.Ret.of_ir Try.func13 rfl (Nat.le_of_ble_eq_true hn) (by kernel_rfl) (by kernel_rfl) h
theorem pParseInt.ofS {args : List AV} {r : AV} (hr : isScalR r = true) (hn : Nat.ble args.length Try.f13.ntmps = true) (h : aCode (Abs.Ret Try.prog) pParseInt.keep pParseInt.code (doneS pParseInt.res r) ⟨argEnv 0 args, [], []⟩) : Abs.Ret Try.prog 13 args r [] :=
  Abs.Ret.of_irS hr Try.func13 rfl (Nat.le_of_ble_eq_true hn) (by kernel_rfl) (by kernel_rfl) h
abbrev pParseInt.Ret (args : List AV) (r : AV) (frs : Fr) : Prop := Abs.Ret Try.prog 13 args r frs
def lawParseInt.code : ACode := (.seq (.region false [s 2 (.mv (.const (.bool false)))]) (.seq (.seq (.region false [s 7 (.mv (t 0)), s 8 (.len true (t 7)), s 9 (.bin .gtr (t 8) (.const (.int .i64 1048576)))]) (.cond (t 9) (.seq (.region false [s 2 (.mv (.const (.bool true)))]) .ret) .skip)) (.seq (.region false [s 11 (.mv (t 0)), s 12 (.call 12 [(t 11)]), s 10 (.mv (t 12)), s 13 (.extract (t 10) 0), s 14 (.extract (t 10) 1), s 3 (.mv (t 13)), s 4 (.mv (t 14))]) (.seq (.region false [s 16 (.mv (t 0)), s 17 (.call 13 [(t 16)]), s 15 (.mv (t 17)), s 18 (.extract (t 15) 0), s 19 (.extract (t 15) 1), s 5 (.mv (t 18)), s 6 (.mv (t 19))]) (.seq (.seq (.region false [s 20 (.mv (t 5)), s 21 (.mv (t 3)), s 22 (.bin .neq (t 20) (t 21)), s 23 (.mv (t 22)), g 23 false 24 (.mv (t 6)), g 23 false 25 (.mv (t 4)), g 23 false 26 (.binb .neq (t 24) (t 25)), s 27 (.or (t 23) (t 26))]) (.cond (t 27) (.seq (.region false [s 2 (.mv (.const (.bool false)))]) .ret) .skip)) (.seq (.region false [s 2 (.mv (.const (.bool true)))]) .ret))))))
def lawParseInt.keep : List Nat := [0, 2, 3, 4, 5, 6]
def lawParseInt.res : List RRes := [.tmp 2]
theorem lawParseInt.of {args : List AV} {r : AV} {frs : Fr} (hn : Nat.ble args.length Try.f3.ntmps = true) (h : aCode (Abs.Ret Try.prog) lawParseInt.keep lawParseInt.code (doneK lawParseInt.res r frs) ⟨argEnv 0 args, [], []⟩) : Abs.Ret Try.prog 3 args r frs :=
  Abs.Ret.of_ir Try.func3 rfl (Nat.le_of_ble_eq_true hn) (by kernel_rfl) (by kernel_rfl) h
theorem lawParseInt.ofS {args : List AV} {r : AV} (hr : isScalR r = true) (hn : Nat.ble args.length Try.f3.ntmps = true) (h : aCode (Abs.Ret Try.prog) lawParseInt.keep lawParseInt.code (doneS lawParseInt.res r) ⟨argEnv 0 args, [], []⟩) : Abs.Ret Try.prog 3 args r [] :=
  Abs.Ret.of_irS hr Try.func3 rfl (Nat.le_of_ble_eq_true hn) (by kernel_rfl) (by kernel_rfl) h
abbrev lawParseInt.Ret (args : List AV) (r : AV) (frs : Fr) : Prop := Abs.Ret Try.prog 3 args r frs
def sIsNumber.code : ACode := (.seq (.region false [s 2 (.mv (.const (.bool false)))]) (.seq (.region false [s 6 (.mv (t 0)), s 7 (.call 12 [(t 6)]), s 5 (.mv (t 7)), s 8 (.extract (t 5) 0), s 9 (.extract (t 5) 1), s 3 (.mv (t 8)), s 4 (.mv (t 9))]) (.seq (.region false [s 10 (.mv (t 4)), s 2 (.mv (t 10))]) .ret)))
def sIsNumber.keep : List Nat := [0, 2, 4]
def sIsNumber.res : List RRes := [.tmp 2]
theorem sIsNumber.of {args : List AV} {r : AV} {frs : Fr} (hn : Nat.ble args.length Try.f16.ntmps = true) (h : aCode (Abs.Ret Try.prog) sIsNumber.keep sIsNumber.code (doneK sIsNumber.res r frs) ⟨argEnv 0 args, [], []⟩) : Abs.Ret Try.prog 16 args r frs :=
  Abs.Ret.of_ir Try.func16 rfl (Nat.le_of_ble_eq_true hn) (by kernel_rfl) (by kernel_rfl) h
theorem sIsNumber.ofS {args : List AV} {r : AV} (hr : isScalR r = true) (hn : Nat.ble args.length Try.f16.ntmps = true) (h : aCode (Abs.Ret Try.prog) sIsNumber.keep sIsNumber.code (doneS sIsNumber.res r) ⟨argEnv 0 args, [], []⟩) : Abs.Ret Try.prog 16 args r [] :=
  Abs.Ret.of_irS hr Try.func16 rfl (Nat.le_of_ble_eq_true hn) (by kernel_rfl) (by kernel_rfl) h
abbrev sIsNumber.Ret (args : List AV) (r : AV) (frs : Fr) : Prop := Abs.Ret Try.prog 16 args r frs
def pIsNumber.code : ACode := (.seq (.region false [s 2 (.mv (.const (.bool false)))]) (.seq (.region false [s 6 (.mv (t 0)), s 7 (.call 13 [(t 6)]), s 5 (.mv (t 7)), s 8 (.extract (t 5) 0), s 9 (.extract (t 5) 1), s 3 (.mv (t 8)), s 4 (.mv (t 9))]) (.seq (.region false [s 10 (.mv (t 4)), s 2 (.mv (t 10))]) .ret)))
def pIsNumber.keep : List Nat := [0, 2, 4]
def pIsNumber.res : List RRes := [.tmp 2]
theorem pIsNumber.of {args : List AV} {r : AV} {frs : Fr} (hn : Nat.ble args.length Try.f17.ntmps = true) (h : aCode (Abs.Ret Try.prog) pIsNumber.keep pIsNumber.code (doneK pIsNumber.res r frs) ⟨argEnv 0 args, [], []⟩) : Abs.Ret Try.prog 17 args r frs :=
  Abs.Ret.of_ir Try.func17 rfl (Nat.le_of_ble_eq_true hn) (by kernel_rfl) (by kernel_rfl) h
theorem pIsNumber.ofS {args : List AV} {r : AV} (hr : isScalR r = true) (hn : Nat.ble args.length Try.f17.ntmps = true) (h : aCode (Abs.Ret Try.prog) pIsNumber.keep pIsNumber.code (doneS pIsNumber.res r) ⟨argEnv 0 args, [], []⟩) : Abs.Ret Try.prog 17 args r [] :=
  Abs.Ret.of_irS hr Try.func17 rfl (Nat.le_of_ble_eq_true hn) (by kernel_rfl) (by kernel_rfl) h
abbrev pIsNumber.Ret (args : List AV) (r : AV) (frs : Fr) : Prop := Abs.Ret Try.prog 17 args r frs
def lawIsNumber.code : ACode := (.seq (.region false [s 2 (.mv (.const (.bool false)))]) (.seq (.seq (.region false [s 5 (.mv (t 0)), s 6 (.len true (t 5)), s 7 (.bin .gtr (t 6) (.const (.int .i64 1048576)))]) (.cond (t 7) (.seq (.region false [s 2 (.mv (.const (.bool true)))]) .ret) .skip)) (.seq (.region false [s 8 (.mv (t 0)), s 9 (.call 16 [(t 8)]), s 3 (.mv (t 9))]) (.seq (.region false [s 10 (.mv (t 0)), s 11 (.call 17 [(t 10)]), s 4 (.mv (t 11))]) (.seq (.seq (.region false [s 12 (.mv (t 4)), s 13 (.mv (t 3)), s 14 (.binb .neq (t 12) (t 13))]) (.cond (t 14) (.seq (.region false [s 2 (.mv (.const (.bool false)))]) .ret) .skip)) (.seq (.region false [s 2 (.mv (.const (.bool true)))]) .ret))))))
def lawIsNumber.keep : List Nat := [0, 2, 3, 4]
def lawIsNumber.res : List RRes := [.tmp 2]
theorem lawIsNumber.of {args : List AV} {r : AV} {frs : Fr} (hn : Nat.ble args.length Try.f5.ntmps = true) (h : aCode (Abs.Ret Try.prog) lawIsNumber.keep lawIsNumber.code (doneK lawIsNumber.res r frs) ⟨argEnv 0 args, [], []⟩) : Abs.Ret Try.prog 5 args r frs :=
  Abs.Ret.of_ir Try.func5 rfl (Nat.le_of_ble_eq_true hn) (by kernel_rfl) (by kernel_rfl) h
theorem lawIsNumber.ofS {args : List AV} {r : AV} (hr : isScalR r = true) (hn : Nat.ble args.length Try.f5.ntmps = true) (h : aCode (Abs.Ret Try.prog) lawIsNumber.keep lawIsNumber.code (doneS lawIsNumber.res r) ⟨argEnv 0 args, [], []⟩) : Abs.Ret Try.prog 5 args r [] :=
  Abs.Ret.of_irS hr Try.func5 rfl (Nat.le_of_ble_eq_true hn) (by kernel_rfl) (by kernel_rfl) h
abbrev lawIsNumber.Ret (args : List AV) (r : AV) (frs : Fr) : Prop := Abs.Ret Try.prog 5 args r frs
def sCmpAtoms.code : ACode := (.seq (.region false [s 4 (.mv (.const (.int .i64 0)))]) (.seq (.region false [s 10 (.mv (t 0)), s 11 (.call 12 [(t 10)]), s 9 (.mv (t 11)), s 12 (.extract (t 9) 0), s 13 (.extract (t 9) 1), s 5 (.mv (t 12)), s 6 (.mv (t 13))]) (.seq (.region false [s 15 (.mv (t 1)), s 16 (.call 12 [(t 15)]), s 14 (.mv (t 16)), s 17 (.extract (t 14) 0), s 18 (.extract (t 14) 1), s 7 (.mv (t 17)), s 8 (.mv (t 18))]) (.seq (.block 0 (.seq (.seq (.region false [s 20 (.mv (t 6)), s 21 (.mv (t 20)), g 21 true 22 (.mv (t 8)), s 23 (.and (t 21) (t 22)), s 24 (.mv (t 23)), g 24 true 25 (.mv (t 5)), g 24 true 26 (.mv (t 7)), g 24 true 27 (.bin .lss (t 25) (t 26)), s 28 (.and (t 24) (t 27)), s 19 (.mv (t 28))]) (.cond (t 19) .skip (.region false [s 29 (.mv (t 6)), s 30 (.mv (t 29)), g 30 true 31 (.mv (t 8)), g 30 true 32 (.not (t 31)), s 33 (.and (t 30) (t 32)), s 19 (.mv (t 33))]))) (.cond (t 19) (.seq (.region false [s 4 (.mv (.const (.int .i64 (-1))))]) .ret) (.seq (.seq (.region false [s 35 (.mv (t 6)), s 36 (.mv (t 35)), g 36 true 37 (.mv (t 8)), s 38 (.and (t 36) (t 37)), s 39 (.mv (t 38)), g 39 true 40 (.mv (t 5)), g 39 true 41 (.mv (t 7)), g 39 true 42 (.bin .gtr (t 40) (t 41)), s 43 (.and (t 39) (t 42)), s 34 (.mv (t 43))]) (.cond (t 34) .skip (.region false [s 44 (.mv (t 8)), s 45 (.mv (t 44)), g 45 true 46 (.mv (t 6)), g 45 true 47 (.not (t 46)), s 48 (.and (t 45) (t 47)), s 34 (.mv (t 48))]))) (.cond (t 34) (.seq (.region false [s 4 (.mv (.const (.int .i64 1)))]) .ret) (.seq (.region false [s 50 (.mv (t 6)), s 49 (.mv (t 50))]) (.cond (t 49) (.seq (.region false [s 4 (.mv (.const (.int .i64 0)))]) .ret) .skip))))))) (.seq (.region false [s 51 (.mv (t 0)), s 52 (.mv (t 1)), s 53 (.call 40 [(t 51), (t 52)]), s 4 (.mv (t 53))]) .ret)))))
def sCmpAtoms.keep : List Nat := [0, 1, 4, 5, 6, 7, 8, 19, 34]
def sCmpAtoms.res : List RRes := [.tmp 4]
theorem sCmpAtoms.of {args : List AV} {r : AV} {frs : Fr} (hn : Nat.ble args.length Try.f24.ntmps = true) (h : aCode (Abs.Ret Try.prog) sCmpAtoms.keep sCmpAtoms.code (doneK sCmpAtoms.res r frs) ⟨argEnv 0 args, [], []⟩) : Abs.Ret Try.prog 24 args r frs :=
  Abs.Ret.of_ir Try.func24 rfl (Nat.le_of_ble_eq_true hn) (by kernel_rfl) (by kernel_rfl) h
theorem sCmpAtoms.ofS {args : List AV} {r : AV} (hr : isScalR r = true) (hn : Nat.ble args.length Try.f24.ntmps = true) (h : aCode (Abs.Ret Try.prog) sCmpAtoms.keep sCmpAtoms.code (doneS sCmpAtoms.res r) ⟨argEnv 0 args, [], []⟩) : Abs.Ret Try.prog 24 args r [] :=
  Abs.Ret.of_irS hr Try.func24 rfl (Nat.le_of_ble_eq_true hn) (by kernel_rfl) (by kernel_rfl) h
abbrev sCmpAtoms.Ret (args : List AV) (r : AV) (frs : Fr) : Prop := Abs.Ret Try.prog 24 args r frs
def pCmpAtoms.code : ACode := (.seq (.region false [s 4 (.mv (.const (.int .i64 0)))]) (.seq (.region false [s 10 (.mv (t 0)), s 11 (.call 13 [(t 10)]), s 9 (.mv (t 11)), s 12 (.extract (t 9) 0), s 13 (.extract (t 9) 1), s 5 (.mv (t 12)), s 6 (.mv (t 13))]) (.seq (.region false [s 15 (.mv (t 1)), s 16 (.call 13 [(t 15)]), s 14 (.mv (t 16)), s 17 (.extract (t 14) 0), s 18 (.extract (t 14) 1), s 7 (.mv (t 17)), s 8 (.mv (t 18))]) (.seq (.block 0 (.seq (.region false [s 20 (.mv (t 6)), s 21 (.mv (t 20)), g 21 true 22 (.mv (t 8)), s 23 (.and (t 21) (t 22)), s 19 (.mv (t 23))]) (.cond (t 19) (.seq (.region false [s 24 (.mv (t 5)), s 25 (.mv (t 7)), s 26 (.call 41 [(t 24), (t 25)]), s 4 (.mv (t 26))]) .ret) (.seq (.region false [s 28 (.mv (t 6)), s 27 (.mv (t 28))]) (.cond (t 27) (.seq (.region false [s 4 (.mv (.const (.int .i64 (-1))))]) .ret) (.seq (.region false [s 30 (.mv (t 8)), s 29 (.mv (t 30))]) (.cond (t 29) (.seq (.region false [s 4 (.mv (.const (.int .i64 1)))]) .ret) .skip))))))) (.seq (.region false [s 31 (.mv (t 0)), s 32 (.mv (t 1)), s 33 (.call 42 [(t 31), (t 32)]), s 4 (.mv (t 33))]) .ret)))))
def pCmpAtoms.keep : List Nat := [0, 1, 4, 5, 6, 7, 8]
def pCmpAtoms.res : List RRes := [.tmp 4]
theorem pCmpAtoms.of {args : List AV} {r : AV} {frs : Fr} (hn : Nat.ble args.length Try.f25.ntmps = true) (h : aCode (Abs.Ret Try.prog) pCmpAtoms.keep pCmpAtoms.code (doneK pCmpAtoms.res r frs) ⟨argEnv 0 args, [], []⟩) : Abs.Ret Try.prog 25 args r frs :=
  Abs.Ret.of_ir Try.func25 rfl (Nat.le_of_ble_eq_true hn) (by kernel_rfl) (by kernel_rfl) h
theorem pCmpAtoms.ofS {args : List AV} {r : AV} (hr : isScalR r = true) (hn : Nat.ble args.length Try.f25.ntmps = true) (h : aCode (Abs.Ret Try.prog) pCmpAtoms.keep pCmpAtoms.code (doneS pCmpAtoms.res r) ⟨argEnv 0 args, [], []⟩) : Abs.Ret Try.prog 25 args r [] :=
  Abs.Ret.of_irS hr Try.func25 rfl (Nat.le_of_ble_eq_true hn) (by kernel_rfl) (by kernel_rfl) h
abbrev pCmpAtoms.Ret (args : List AV) (r : AV) (frs : Fr) : Prop := Abs.Ret Try.prog 25 args r frs
def lawCmpAtoms.code : ACode := (.seq (.region false [s 4 (.mv (.const (.bool false)))]) (.seq (.seq (.region false [s 7 (.mv (t 0)), s 8 (.len true (t 7)), s 9 (.bin .gtr (t 8) (.const (.int .i64 1048576)))]) (.cond (t 9) (.seq (.region false [s 4 (.mv (.const (.bool true)))]) .ret) .skip)) (.seq (.seq (.region false [s 10 (.mv (t 1)), s 11 (.len true (t 10)), s 12 (.bin .gtr (t 11) (.const (.int .i64 1048576)))]) (.cond (t 12) (.seq (.region false [s 4 (.mv (.const (.bool true)))]) .ret) .skip)) (.seq (.region false [s 13 (.mv (t 0)), s 14 (.mv (t 1)), s 15 (.call 24 [(t 13), (t 14)]), s 5 (.mv (t 15))]) (.seq (.region false [s 16 (.mv (t 0)), s 17 (.mv (t 1)), s 18 (.call 25 [(t 16), (t 17)]), s 6 (.mv (t 18))]) (.seq (.seq (.region false [s 19 (.mv (t 6)), s 20 (.mv (t 5)), s 21 (.bin .neq (t 19) (t 20))]) (.cond (t 21) (.seq (.region false [s 4 (.mv (.const (.bool false)))]) .ret) .skip)) (.seq (.region false [s 4 (.mv (.const (.bool true)))]) .ret)))))))
def lawCmpAtoms.keep : List Nat := [0, 1, 4, 5, 6]
def lawCmpAtoms.res : List RRes := [.tmp 4]
theorem lawCmpAtoms.of {args : List AV} {r : AV} {frs : Fr} (hn : Nat.ble args.length Try.f9.ntmps = true) (h : aCode (Abs.Ret Try.prog) lawCmpAtoms.keep lawCmpAtoms.code (doneK lawCmpAtoms.res r frs) ⟨argEnv 0 args, [], []⟩) : Abs.Ret Try.prog 9 args r frs :=
  Abs.Ret.of_ir Try.func9 rfl (Nat.le_of_ble_eq_true hn) (by kernel_rfl) (by kernel_rfl) h
theorem lawCmpAtoms.ofS {args : List AV} {r : AV} (hr : isScalR r = true) (hn : Nat.ble args.length Try.f9.ntmps = true) (h : aCode (Abs.Ret Try.prog) lawCmpAtoms.keep lawCmpAtoms.code (doneS lawCmpAtoms.res r) ⟨argEnv 0 args, [], []⟩) : Abs.Ret Try.prog 9 args r [] :=
  Abs.Ret.of_irS hr Try.func9 rfl (Nat.le_of_ble_eq_true hn) (by kernel_rfl) (by kernel_rfl) h
abbrev lawCmpAtoms.Ret (args : List AV) (r : AV) (frs : Fr) : Prop := Abs.Ret Try.prog 9 args r frs
def l1Cmp.code : ACode := (.seq (.region false [s 4 (.mv (.const (.int .i64 0)))]) (.seq (.block 0 (.seq (.region false [s 6 (.mv (t 0)), s 7 (.mv (t 1)), s 8 (.bin .lss (t 6) (t 7)), s 5 (.mv (t 8))]) (.cond (t 5) (.seq (.region false [s 4 (.mv (.const (.int .i64 (-1))))]) .ret) (.seq (.region false [s 10 (.mv (t 0)), s 11 (.mv (t 1)), s 12 (.bin .gtr (t 10) (t 11)), s 9 (.mv (t 12))]) (.cond (t 9) (.seq (.region false [s 4 (.mv (.const (.int .i64 1)))]) .ret) .skip))))) (.seq (.region false [s 4 (.mv (.const (.int .i64 0)))]) .ret)))
def l1Cmp.keep : List Nat := [0, 1, 4]
def l1Cmp.res : List RRes := [.tmp 4]
theorem l1Cmp.of {args : List AV} {r : AV} {frs : Fr} (hn : Nat.ble args.length Try.f40.ntmps = true) (h : aCode (Abs.Ret Try.prog) l1Cmp.keep l1Cmp.code (doneK l1Cmp.res r frs) ⟨argEnv 0 args, [], []⟩) : Abs.Ret Try.prog 40 args r frs :=
  Abs.Ret.of_ir Try.func40 rfl (Nat.le_of_ble_eq_true hn) (by kernel_rfl) (by kernel_rfl) h
theorem l1Cmp.ofS {args : List AV} {r : AV} (hr : isScalR r = true) (hn : Nat.ble args.length Try.f40.ntmps = true) (h : aCode (Abs.Ret Try.prog) l1Cmp.keep l1Cmp.code (doneS l1Cmp.res r) ⟨argEnv 0 args, [], []⟩) : Abs.Ret Try.prog 40 args r [] :=
  Abs.Ret.of_irS hr Try.func40 rfl (Nat.le_of_ble_eq_true hn) (by kernel_rfl) (by kernel_rfl) h
abbrev l1Cmp.Ret (args : List AV) (r : AV) (frs : Fr) : Prop := Abs.Ret Try.prog 40 args r frs
def cmpInt.code : ACode := (.seq (.region false [s 4 (.mv (.const (.int .i64 0)))]) (.seq (.region false [s 7 (.mv (t 0)), s 8 (.call 50 [(t 7)]), s 5 (.mv (t 8))]) (.seq (.region false [s 9 (.mv (t 1)), s 10 (.call 50 [(t 9)]), s 6 (.mv (t 10))]) (.seq (.seq (.region false [s 11 (.mv (t 5))]) (.cond (t 11) (.seq (.seq (.region false [s 12 (.mv (t 6))]) (.cond (t 12) (.seq (.region false [s 4 (.mv (.const (.int .i64 0)))]) .ret) .skip)) (.seq (.region false [s 4 (.mv (.const (.int .i64 (-1))))]) .ret)) .skip)) (.seq (.seq (.region false [s 13 (.mv (t 6))]) (.cond (t 13) (.seq (.region false [s 4 (.mv (.const (.int .i64 1)))]) .ret) .skip)) (.seq (.seq (.region false [s 14 (.mv (t 0)), s 15 (.mv (t 1)), s 16 (.bin .lss (t 14) (t 15))]) (.cond (t 16) (.seq (.region false [s 4 (.mv (.const (.int .i64 (-1))))]) .ret) .skip)) (.seq (.seq (.region false [s 17 (.mv (t 0)), s 18 (.mv (t 1)), s 19 (.bin .gtr (t 17) (t 18))]) (.cond (t 19) (.seq (.region false [s 4 (.mv (.const (.int .i64 1)))]) .ret) .skip)) (.seq (.region false [s 4 (.mv (.const (.int .i64 0)))]) .ret))))))))
def cmpInt.keep : List Nat := [0, 1, 4, 5, 6]
def cmpInt.res : List RRes := [.tmp 4]
theorem cmpInt.of {args : List AV} {r : AV} {frs : Fr} (hn : Nat.ble args.length Try.f41.ntmps = true) (h : aCode (Abs.Ret Try.prog) cmpInt.keep cmpInt.code (doneK cmpInt.res r frs) ⟨argEnv 0 args, [], []⟩) : Abs.Ret Try.prog 41 args r frs :=
  Abs.Ret.of_ir Try.func41 rfl (Nat.le_of_ble_eq_true hn) (by kernel_rfl) (by kernel_rfl) h
theorem cmpInt.ofS {args : List AV} {r : AV} (hr : isScalR r = true) (hn : Nat.ble args.length Try.f41.ntmps = true) (h : aCode (Abs.Ret Try.prog) cmpInt.keep cmpInt.code (doneS cmpInt.res r) ⟨argEnv 0 args, [], []⟩) : Abs.Ret Try.prog 41 args r [] :=
  Abs.Ret.of_irS hr Try.func41 rfl (Nat.le_of_ble_eq_true hn) (by kernel_rfl) (by kernel_rfl) h
abbrev cmpInt.Ret (args : List AV) (r : AV) (frs : Fr) : Prop := Abs.Ret Try.prog 41 args r frs
def cmpString.code : ACode := (.seq (.region false [s 4 (.mv (.const (.int .i64 0)))]) (.seq (.region false [s 7 (.mv (t 0)), s 8 (.call 51 [(t 7)]), s 5 (.mv (t 8))]) (.seq (.region false [s 9 (.mv (t 1)), s 10 (.call 51 [(t 9)]), s 6 (.mv (t 10))]) (.seq (.seq (.region false [s 11 (.mv (t 5))]) (.cond (t 11) (.seq (.seq (.region false [s 12 (.mv (t 6))]) (.cond (t 12) (.seq (.region false [s 4 (.mv (.const (.int .i64 0)))]) .ret) .skip)) (.seq (.region false [s 4 (.mv (.const (.int .i64 (-1))))]) .ret)) .skip)) (.seq (.seq (.region false [s 13 (.mv (t 6))]) (.cond (t 13) (.seq (.region false [s 4 (.mv (.const (.int .i64 1)))]) .ret) .skip)) (.seq (.seq (.region false [s 14 (.mv (t 0)), s 15 (.mv (t 1)), s 16 (.bin .lss (t 14) (t 15))]) (.cond (t 16) (.seq (.region false [s 4 (.mv (.const (.int .i64 (-1))))]) .ret) .skip)) (.seq (.seq (.region false [s 17 (.mv (t 0)), s 18 (.mv (t 1)), s 19 (.bin .gtr (t 17) (t 18))]) (.cond (t 19) (.seq (.region false [s 4 (.mv (.const (.int .i64 1)))]) .ret) .skip)) (.seq (.region false [s 4 (.mv (.const (.int .i64 0)))]) .ret))))))))
def cmpString.keep : List Nat := [0, 1, 4, 5, 6]
def cmpString.res : List RRes := [.tmp 4]
theorem cmpString.of {args : List AV} {r : AV} {frs : Fr} (hn : Nat.ble args.length Try.f42.ntmps = true) (h : aCode (Abs.Ret Try.prog) cmpString.keep cmpString.code (doneK cmpString.res r frs) ⟨argEnv 0 args, [], []⟩) : Abs.Ret Try.prog 42 args r frs :=
  Abs.Ret.of_ir Try.func42 rfl (Nat.le_of_ble_eq_true hn) (by kernel_rfl) (by kernel_rfl) h
theorem cmpString.ofS {args : List AV} {r : AV} (hr : isScalR r = true) (hn : Nat.ble args.length Try.f42.ntmps = true) (h : aCode (Abs.Ret Try.prog) cmpString.keep cmpString.code (doneS cmpString.res r) ⟨argEnv 0 args, [], []⟩) : Abs.Ret Try.prog 42 args r [] :=
  Abs.Ret.of_irS hr Try.func42 rfl (Nat.le_of_ble_eq_true hn) (by kernel_rfl) (by kernel_rfl) h
abbrev cmpString.Ret (args : List AV) (r : AV) (frs : Fr) : Prop := Abs.Ret Try.prog 42 args r frs
def isNaNInt.code : ACode := (.seq (.region false [s 2 (.mv (.const (.bool false)))]) (.seq (.region false [s 3 (.mv (t 0)), s 4 (.mv (t 0)), s 5 (.bin .neq (t 3) (t 4)), s 2 (.mv (t 5))]) .ret))
def isNaNInt.keep : List Nat := [0, 2]
def isNaNInt.res : List RRes := [.tmp 2]
theorem isNaNInt.of {args : List AV} {r : AV} {frs : Fr} (hn : Nat.ble args.length Try.f50.ntmps = true) (h : aCode (Abs.Ret Try.prog) isNaNInt.keep isNaNInt.code (doneK isNaNInt.res r frs) ⟨argEnv 0 args, [], []⟩) : Abs.Ret Try.prog 50 args r frs :=
  Abs.Ret.of_ir Try.func50 rfl (Nat.le_of_ble_eq_true hn) (by kernel_rfl) (by kernel_rfl) h
theorem isNaNInt.ofS {args : List AV} {r : AV} (hr : isScalR r = true) (hn : Nat.ble args.length Try.f50.ntmps = true) (h : aCode (Abs.Ret Try.prog) isNaNInt.keep isNaNInt.code (doneS isNaNInt.res r) ⟨argEnv 0 args, [], []⟩) : Abs.Ret Try.prog 50 args r [] :=
  Abs.Ret.of_irS hr Try.func50 rfl (Nat.le_of_ble_eq_true hn) (by kernel_rfl) (by kernel_rfl) h
abbrev isNaNInt.Ret (args : List AV) (r : AV) (frs : Fr) : Prop := Abs.Ret Try.prog 50 args r frs
def isNaNString.code : ACode := (.seq (.region false [s 2 (.mv (.const (.bool false)))]) (.seq (.region false [s 3 (.mv (t 0)), s 4 (.mv (t 0)), s 5 (.bin .neq (t 3) (t 4)), s 2 (.mv (t 5))]) .ret))
def isNaNString.keep : List Nat := [0, 2]
def isNaNString.res : List RRes := [.tmp 2]
theorem isNaNString.of {args : List AV} {r : AV} {frs : Fr} (hn : Nat.ble args.length Try.f51.ntmps = true) (h : aCode (Abs.Ret Try.prog) isNaNString.keep isNaNString.code (doneK isNaNString.res r frs) ⟨argEnv 0 args, [], []⟩) : Abs.Ret Try.prog 51 args r frs :=
  Abs.Ret.of_ir Try.func51 rfl (Nat.le_of_ble_eq_true hn) (by kernel_rfl) (by kernel_rfl) h
theorem isNaNString.ofS {args : List AV} {r : AV} (hr : isScalR r = true) (hn : Nat.ble args.length Try.f51.ntmps = true) (h : aCode (Abs.Ret Try.prog) isNaNString.keep isNaNString.code (doneS isNaNString.res r) ⟨argEnv 0 args, [], []⟩) : Abs.Ret Try.prog 51 args r [] :=
  Abs.Ret.of_irS hr Try.func51 rfl (Nat.le_of_ble_eq_true hn) (by kernel_rfl) (by kernel_rfl) h
abbrev isNaNString.Ret (args : List AV) (r : AV) (frs : Fr) : Prop := Abs.Ret Try.prog 51 args r frs
end Go.Proofs.Ytnpjjbolonbndaa
