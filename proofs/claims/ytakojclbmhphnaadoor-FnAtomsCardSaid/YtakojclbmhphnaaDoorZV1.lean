/-
  What stands below some laws' proofs, part 1: contracts of functions, by an evaluator.
-/
import Derived.Test.YtakojclbmhphnaaDoorK5
import Derived.Laws.RangeAny
import Derived.Shelf.Small.Wraps
import Derived.Shelf.Utf8.RuneCount
import Derived.Shelf.Strconv.Itoa0
import Derived.Shelf.Strconv.Itoa1
import Derived.Shelf.LaysM
import Derived.Shelf.Strconv.Itoa2
import Derived.Shelf.Strconv.Itoa3
import Derived.Shelf.Strings.Search1
import Derived.Shelf.Strings.Search2
import Derived.Shelf.Strings.Search3
import Derived.Shelf.Strings.Count
import Derived.Shelf.Strings.Shaped
import Derived.Shelf.Strings.Prefix
import Derived.Shelf.Strings.Split
import Derived.Shelf.Strings.SplitShaped
import Derived.Shelf.Unicode.Decode
import Derived.Shelf.Strings.RuneCount
import Derived.Shelf.Strings.Explode
import Derived.Shelf.Unicode.DecodeSlow
import Derived.Shelf.Unicode.DecodeAny
import Derived.Ground.Names2Prog
import Derived.Shelf.Slices.SearchI
import Derived.Test.YtakojclbmhphnaaDoorProg
import Derived.Lib.SlicesCompact
import Derived.Sort.Statements
import Derived.Test.YtakojclbmhphnaaDoorRows
import Derived.ProofKit
import Derived.Deep.Slices
import Derived.Test.YtakojclbmhphnaaDoorTie
import Derived.Test.YtakojclbmhphnaaDoorCards
import Derived.Lib.LaidTab
import Derived.LaidMore
import Derived.MakeChecks
import Derived.SevenTiedAt
namespace Go.Proofs.YtakojclbmhphnaaDoor
open Abs
def isDigit.code : ACode := (.seq (.region false [s 2 (.mv (.const (.bool false)))]) (.seq (.region false [s 3 (.mv (t 0)), s 4 (.bin .leq (.const (.int .i32 48)) (t 3)), s 5 (.mv (t 4)), g 5 true 6 (.mv (t 0)), g 5 true 7 (.bin .leq (t 6) (.const (.int .i32 57))), s 8 (.and (t 5) (t 7)), s 2 (.mv (t 8))]) .ret))
def isDigit.keep : List Nat := [0, 2]
def isDigit.res : List RRes := [.tmp 2]
theorem isDigit.of {mo : Bool} {args : List AV} {r : AV} {frs : Fr} (hn : Nat.ble args.length Tryd.f28.ntmps = true) (h : aCode (Kn mo Tryd.prog) isDigit.keep 0 isDigit.code (doneK isDigit.res r frs) ⟨argEnv 0 args, [], []⟩) : Abs.Ret mo Tryd.prog 28 args r frs :=
  Abs.Ret.of_ir Tryd.func28 rfl (by kernel_rfl) (Nat.le_of_ble_eq_true hn) (by kernel_rfl) (by kernel_rfl) h
abbrev isDigit.Ret (args : List AV) (r : AV) (frs : Fr) : Prop := Abs.Ret true Tryd.prog 28 args r frs
def isLetter.code : ACode := (.seq (.region false [s 2 (.mv (.const (.bool false)))]) (.seq (.region false [s 3 (.mv (t 0)), s 4 (.bin .leq (.const (.int .i32 97)) (t 3)), s 5 (.mv (t 4)), g 5 true 6 (.mv (t 0)), g 5 true 7 (.bin .leq (t 6) (.const (.int .i32 122))), s 8 (.and (t 5) (t 7)), s 2 (.mv (t 8))]) .ret))
def isLetter.keep : List Nat := [0, 2]
def isLetter.res : List RRes := [.tmp 2]
theorem isLetter.of {mo : Bool} {args : List AV} {r : AV} {frs : Fr} (hn : Nat.ble args.length Tryd.f31.ntmps = true) (h : aCode (Kn mo Tryd.prog) isLetter.keep 0 isLetter.code (doneK isLetter.res r frs) ⟨argEnv 0 args, [], []⟩) : Abs.Ret mo Tryd.prog 31 args r frs :=
  Abs.Ret.of_ir Tryd.func31 rfl (by kernel_rfl) (Nat.le_of_ble_eq_true hn) (by kernel_rfl) (by kernel_rfl) h
abbrev isLetter.Ret (args : List AV) (r : AV) (frs : Fr) : Prop := Abs.Ret true Tryd.prog 31 args r frs
def pIsAtom.code : ACode := (.seq (.region false [s 2 (.mv (.const (.bool false)))]) (.seq (.seq (.region false [s 5 (.mv (t 0)), s 6 (.bin .eql (t 5) (.const (.string (.mk #[])))), s 7 (.mv (t 6)), g 7 false 8 (.mv (t 0)), g 7 false 9 (.len true (t 8)), g 7 false 10 (.bin .gtr (t 9) (.const (.int .i64 8))), s 11 (.or (t 7) (t 10))]) (.cond (t 11) (.seq (.region false [s 2 (.mv (.const (.bool false)))]) .ret) .skip)) (.seq (.seq (.region false [s 12 (.mv (t 0)), s 13 (.range (t 12))]) (.block 0 (.loop (.seq (.region false [s 14 (.next (t 13)), s 15 (.extract (t 14) 0)]) (.seq (.cond (t 15) .skip (.exit 0)) (.block 1 (.seq (.region false [s 16 (.extract (t 14) 2), s 4 (.mv (t 16))]) (.seq (.region false [s 17 (.mv (t 4)), s 18 (.call 31 [(t 17)]), s 19 (.not (t 18)), s 20 (.mv (t 19)), g 20 true 21 (.mv (t 4)), g 20 true 22 (.call 28 [(t 21)]), g 20 true 23 (.not (t 22)), s 24 (.and (t 20) (t 23))]) (.cond (t 24) (.seq (.region false [s 2 (.mv (.const (.bool false)))]) .ret) .skip))))))))) (.seq (.region false [s 2 (.mv (.const (.bool true)))]) .ret))))
def pIsAtom.keep : List Nat := [0, 2, 4, 13, 14, 15]
def pIsAtom.res : List RRes := [.tmp 2]
theorem pIsAtom.of {mo : Bool} {args : List AV} {r : AV} {frs : Fr} (hn : Nat.ble args.length Tryd.f14.ntmps = true) (h : aCode (Kn mo Tryd.prog) pIsAtom.keep 0 pIsAtom.code (doneK pIsAtom.res r frs) ⟨argEnv 0 args, [], []⟩) : Abs.Ret mo Tryd.prog 14 args r frs :=
  Abs.Ret.of_ir Tryd.func14 rfl (by kernel_rfl) (Nat.le_of_ble_eq_true hn) (by kernel_rfl) (by kernel_rfl) h
abbrev pIsAtom.Ret (args : List AV) (r : AV) (frs : Fr) : Prop := Abs.Ret true Tryd.prog 14 args r frs
def pIsName.code : ACode := (.seq (.region false [s 2 (.mv (.const (.bool false)))]) (.seq (.region false [s 3 (.mv (t 0)), s 4 (.call 14 [(t 3)]), s 5 (.mv (t 4)), g 5 true 6 (.mv (t 0)), g 5 true 7 (.index (t 6) (.const (.int .i64 0))), g 5 true 8 (.conv .i32 (t 7)), g 5 true 9 (.call 31 [(t 8)]), s 10 (.and (t 5) (t 9)), s 2 (.mv (t 10))]) .ret))
def pIsName.keep : List Nat := [0, 2]
def pIsName.res : List RRes := [.tmp 2]
theorem pIsName.of {mo : Bool} {args : List AV} {r : AV} {frs : Fr} (hn : Nat.ble args.length Tryd.f11.ntmps = true) (h : aCode (Kn mo Tryd.prog) pIsName.keep 0 pIsName.code (doneK pIsName.res r frs) ⟨argEnv 0 args, [], []⟩) : Abs.Ret mo Tryd.prog 11 args r frs :=
  Abs.Ret.of_ir Tryd.func11 rfl (by kernel_rfl) (Nat.le_of_ble_eq_true hn) (by kernel_rfl) (by kernel_rfl) h
abbrev pIsName.Ret (args : List AV) (r : AV) (frs : Fr) : Prop := Abs.Ret true Tryd.prog 11 args r frs
def pIsVar.code : ACode := (.seq (.region false [s 2 (.mv (.const (.bool false)))]) (.seq (.region false [s 6 (.mv (t 0)), s 7 (.call 32 [(t 6), (.const (.string (.mk #[63])))]), s 5 (.mv (t 7)), s 8 (.extract (t 5) 0), s 9 (.extract (t 5) 1), s 3 (.mv (t 8)), s 4 (.mv (t 9))]) (.seq (.region false [s 10 (.mv (t 4)), s 11 (.mv (t 10)), g 11 true 12 (.mv (t 3)), g 11 true 13 (.call 14 [(t 12)]), s 14 (.and (t 11) (t 13)), s 2 (.mv (t 14))]) .ret)))
def pIsVar.keep : List Nat := [0, 2, 3, 4]
def pIsVar.res : List RRes := [.tmp 2]
theorem pIsVar.of {mo : Bool} {args : List AV} {r : AV} {frs : Fr} (hn : Nat.ble args.length Tryd.f13.ntmps = true) (h : aCode (Kn mo Tryd.prog) pIsVar.keep 0 pIsVar.code (doneK pIsVar.res r frs) ⟨argEnv 0 args, [], []⟩) : Abs.Ret mo Tryd.prog 13 args r frs :=
  Abs.Ret.of_ir Tryd.func13 rfl (by kernel_rfl) (Nat.le_of_ble_eq_true hn) (by kernel_rfl) (by kernel_rfl) h
abbrev pIsVar.Ret (args : List AV) (r : AV) (frs : Fr) : Prop := Abs.Ret true Tryd.prog 13 args r frs
def pIsTerm.code : ACode := (.seq (.region false [s 2 (.mv (.const (.bool false)))]) (.seq (.region false [s 3 (.mv (t 0)), s 4 (.call 14 [(t 3)]), s 5 (.mv (t 4)), g 5 false 6 (.mv (t 0)), g 5 false 7 (.call 13 [(t 6)]), s 8 (.or (t 5) (t 7)), s 2 (.mv (t 8))]) .ret))
def pIsTerm.keep : List Nat := [0, 2]
def pIsTerm.res : List RRes := [.tmp 2]
theorem pIsTerm.of {mo : Bool} {args : List AV} {r : AV} {frs : Fr} (hn : Nat.ble args.length Tryd.f15.ntmps = true) (h : aCode (Kn mo Tryd.prog) pIsTerm.keep 0 pIsTerm.code (doneK pIsTerm.res r frs) ⟨argEnv 0 args, [], []⟩) : Abs.Ret mo Tryd.prog 15 args r frs :=
  Abs.Ret.of_ir Tryd.func15 rfl (by kernel_rfl) (Nat.le_of_ble_eq_true hn) (by kernel_rfl) (by kernel_rfl) h
abbrev pIsTerm.Ret (args : List AV) (r : AV) (frs : Fr) : Prop := Abs.Ret true Tryd.prog 15 args r frs
def cutPrefix.code : ACode := (.seq (.region false [s 4 (.mv (.const (.string (.mk #[])))), s 5 (.mv (.const (.bool false)))]) (.seq (.region false [s 6 (.mv (t 0)), s 7 (.mv (t 1)), s 8 (.call 41 [(t 6), (t 7)]), s 9 (.extract (t 8) 0), s 10 (.extract (t 8) 1), s 4 (.mv (t 9)), s 5 (.mv (t 10))]) .ret))
def cutPrefix.keep : List Nat := [0, 1, 4, 5]
def cutPrefix.res : List RRes := [.tmp 4, .tmp 5]
theorem cutPrefix.of {mo : Bool} {args : List AV} {r : AV} {frs : Fr} (hn : Nat.ble args.length Tryd.f32.ntmps = true) (h : aCode (Kn mo Tryd.prog) cutPrefix.keep 0 cutPrefix.code (doneK cutPrefix.res r frs) ⟨argEnv 0 args, [], []⟩) : Abs.Ret mo Tryd.prog 32 args r frs :=
  Abs.Ret.of_ir Tryd.func32 rfl (by kernel_rfl) (Nat.le_of_ble_eq_true hn) (by kernel_rfl) (by kernel_rfl) h
abbrev cutPrefix.Ret (args : List AV) (r : AV) (frs : Fr) : Prop := Abs.Ret true Tryd.prog 32 args r frs
def slCutPrefix.code : ACode := (.seq (.region false [s 4 (.mv (.const (.string (.mk #[])))), s 5 (.mv (.const (.bool false)))]) (.seq (.seq (.region false [s 6 (.mv (t 0)), s 7 (.mv (t 1)), s 8 (.call 46 [(t 6), (t 7)]), s 9 (.not (t 8))]) (.cond (t 9) (.seq (.region false [s 10 (.mv (t 0)), s 4 (.mv (t 10)), s 5 (.mv (.const (.bool false)))]) .ret) .skip)) (.seq (.region false [s 11 (.mv (t 0)), s 12 (.mv (t 1)), s 13 (.len true (t 12)), s 14 (.slice true 0 (t 11) (some (t 13)) none), s 4 (.mv (t 14)), s 5 (.mv (.const (.bool true)))]) .ret)))
def slCutPrefix.keep : List Nat := [0, 1, 4, 5]
def slCutPrefix.res : List RRes := [.tmp 4, .tmp 5]
theorem slCutPrefix.of {mo : Bool} {args : List AV} {r : AV} {frs : Fr} (hn : Nat.ble args.length Tryd.f41.ntmps = true) (h : aCode (Kn mo Tryd.prog) slCutPrefix.keep 0 slCutPrefix.code (doneK slCutPrefix.res r frs) ⟨argEnv 0 args, [], []⟩) : Abs.Ret mo Tryd.prog 41 args r frs :=
  Abs.Ret.of_ir Tryd.func41 rfl (by kernel_rfl) (Nat.le_of_ble_eq_true hn) (by kernel_rfl) (by kernel_rfl) h
abbrev slCutPrefix.Ret (args : List AV) (r : AV) (frs : Fr) : Prop := Abs.Ret true Tryd.prog 41 args r frs
def slHasPrefix.code : ACode := (.seq (.region false [s 4 (.mv (.const (.bool false)))]) (.seq (.region false [s 5 (.mv (t 0)), s 6 (.len true (t 5)), s 7 (.mv (t 1)), s 8 (.len true (t 7)), s 9 (.bin .geq (t 6) (t 8)), s 10 (.mv (t 9)), g 10 true 11 (.mv (t 0)), g 10 true 12 (.mv (t 1)), g 10 true 13 (.len true (t 12)), g 10 true 14 (.slice true 0 (t 11) none (some (t 13))), g 10 true 15 (.mv (t 1)), g 10 true 16 (.bin .eql (t 14) (t 15)), s 17 (.and (t 10) (t 16)), s 4 (.mv (t 17))]) .ret))
def slHasPrefix.keep : List Nat := [0, 1, 4]
def slHasPrefix.res : List RRes := [.tmp 4]
theorem slHasPrefix.of {mo : Bool} {args : List AV} {r : AV} {frs : Fr} (hn : Nat.ble args.length Tryd.f46.ntmps = true) (h : aCode (Kn mo Tryd.prog) slHasPrefix.keep 0 slHasPrefix.code (doneK slHasPrefix.res r frs) ⟨argEnv 0 args, [], []⟩) : Abs.Ret mo Tryd.prog 46 args r frs :=
  Abs.Ret.of_ir Tryd.func46 rfl (by kernel_rfl) (Nat.le_of_ble_eq_true hn) (by kernel_rfl) (by kernel_rfl) h
abbrev slHasPrefix.Ret (args : List AV) (r : AV) (frs : Fr) : Prop := Abs.Ret true Tryd.prog 46 args r frs
def sFormatInt.code : ACode := (.seq (.region false [s 2 (.mv (.const (.string (.mk #[]))))]) (.seq (.seq (.region false [s 4 (.mv (t 0)), s 5 (.bin .eql (t 4) (.const (.int .i64 (-9223372036854775808))))]) (.cond (t 5) (.seq (.region false [s 2 (.mv (.const (.string (.mk #[45, 57, 50, 50, 51, 51, 55, 50, 48, 51, 54, 56, 53, 52, 55, 55, 53, 56, 48, 56]))))]) .ret) .skip)) (.seq (.seq (.region false [s 6 (.mv (t 0)), s 7 (.bin .lss (t 6) (.const (.int .i64 0)))]) (.cond (t 7) (.seq (.region false [s 8 (.mv (t 0)), s 9 (.neg (t 8)), s 10 (.call 18 [(t 9)]), s 11 (.bin .add (.const (.string (.mk #[45]))) (t 10)), s 2 (.mv (t 11))]) .ret) .skip)) (.seq (.region false [s 3 (.mv (.const (.string (.mk #[]))))]) (.block 0 (.loop (.block 1 (.seq (.region false [s 12 (.mv (t 0)), s 13 (.bin .rem (t 12) (.const (.int .i64 10))), s 14 (.bin .add (.const (.int .i64 48)) (t 13)), s 15 (.conv .u8 (t 14)), s 16 (.bslice 5 1 true [(t 15)]), s 17 (.b2s (t 16)), s 18 (.mv (t 3)), s 19 (.bin .add (t 17) (t 18)), s 3 (.mv (t 19))]) (.seq (.region false [s 20 (.mv (t 0)), s 21 (.bin .quo (t 20) (.const (.int .i64 10))), s 0 (.mv (t 21))]) (.seq (.region false [s 22 (.mv (t 0)), s 23 (.bin .eql (t 22) (.const (.int .i64 0)))]) (.cond (t 23) (.seq (.region false [s 24 (.mv (t 3)), s 2 (.mv (t 24))]) .ret) .skip)))))))))))
def sFormatInt.keep : List Nat := [0, 2, 3]
def sFormatInt.res : List RRes := [.tmp 2]
theorem sFormatInt.ofS {mo : Bool} {args : List AV} {r : AV} (hr : isScalR r = true) (hn : Nat.ble args.length Tryd.f18.ntmps = true) (h : aCode (Kn mo Tryd.prog) sFormatInt.keep 0 sFormatInt.code (doneS sFormatInt.res r) ⟨argEnv 0 args, [], []⟩) : Abs.Ret mo Tryd.prog 18 args r [] :=
  Abs.Ret.of_irS hr Tryd.func18 rfl (by kernel_rfl) (Nat.le_of_ble_eq_true hn) (by kernel_rfl) (by kernel_rfl) h
abbrev sFormatInt.Ret (args : List AV) (r : AV) (frs : Fr) : Prop := Abs.Ret true Tryd.prog 18 args r frs
def pParseInt.code : ACode := (.seq (.region false [s 2 (.mv (.const (.int .i64 0))), s 3 (.mv (.const (.bool false)))]) (.seq (.seq (.region false [s 7 (.mv (t 0)), s 8 (.bin .eql (t 7) (.const (.string (.mk #[])))), s 9 (.mv (t 8)), g 9 false 10 (.mv (t 0)), g 9 false 11 (.len true (t 10)), g 9 false 12 (.bin .gtr (t 11) (.const (.int .i64 1))), g 9 false 13 (.mv (t 12)), g 13 true 14 (.mv (t 0)), g 13 true 15 (.index (t 14) (.const (.int .i64 0))), g 13 true 16 (.bin .eql (t 15) (.const (.int .u8 48))), g 9 false 17 (.and (t 13) (t 16)), s 18 (.or (t 9) (t 17))]) (.cond (t 18) (.seq (.region false [s 2 (.mv (.const (.int .i64 0))), s 3 (.mv (.const (.bool false)))]) .ret) .skip)) (.seq (.region false [s 4 (.mv (.const (.int .i64 0)))]) (.seq (.seq (.region false [s 19 (.mv (t 0)), s 20 (.range (t 19))]) (.block 0 (.loop (.seq (.region false [s 21 (.next (t 20)), s 22 (.extract (t 21) 0)]) (.seq (.cond (t 22) .skip (.exit 0)) (.block 1 (.seq (.region false [s 23 (.extract (t 21) 2), s 6 (.mv (t 23))]) (.seq (.seq (.region false [s 24 (.mv (t 6)), s 25 (.call 28 [(t 24)]), s 26 (.not (t 25))]) (.cond (t 26) (.seq (.region false [s 2 (.mv (.const (.int .i64 0))), s 3 (.mv (.const (.bool false)))]) .ret) .skip)) (.seq (.region false [s 27 (.mv (t 4)), s 28 (.bin .mul (.const (.int .i64 10)) (t 27)), s 29 (.mv (t 6)), s 30 (.bin .sub (t 29) (.const (.int .i32 48))), s 31 (.conv .i64 (t 30)), s 32 (.bin .add (t 28) (t 31)), s 4 (.mv (t 32))]) (.seq (.region false [s 33 (.mv (t 4)), s 34 (.bin .gtr (t 33) (.const (.int .i64 9999)))]) (.cond (t 34) (.seq (.region false [s 2 (.mv (.const (.int .i64 0))), s 3 (.mv (.const (.bool false)))]) .ret) .skip))))))))))) (.seq (.region false [s 35 (.mv (t 4)), s 2 (.mv (t 35)), s 3 (.mv (.const (.bool true)))]) .ret)))))
def pParseInt.keep : List Nat := [0, 2, 3, 4, 6, 20, 21, 22]
def pParseInt.res : List RRes := [.tmp 2, .tmp 3]
theorem pParseInt.ofS {mo : Bool} {args : List AV} {r : AV} (hr : isScalR r = true) (hn : Nat.ble args.length Tryd.f8.ntmps = true) (h : aCode (Kn mo Tryd.prog) pParseInt.keep 0 pParseInt.code (doneS pParseInt.res r) ⟨argEnv 0 args, [], []⟩) : Abs.Ret mo Tryd.prog 8 args r [] :=
  Abs.Ret.of_irS hr Tryd.func8 rfl (by kernel_rfl) (Nat.le_of_ble_eq_true hn) (by kernel_rfl) (by kernel_rfl) h
abbrev pParseInt.Ret (args : List AV) (r : AV) (frs : Fr) : Prop := Abs.Ret true Tryd.prog 8 args r frs
def pIsNumber.code : ACode := (.seq (.region false [s 2 (.mv (.const (.bool false)))]) (.seq (.region false [s 6 (.mv (t 0)), s 7 (.call 8 [(t 6)]), s 5 (.mv (t 7)), s 8 (.extract (t 5) 0), s 9 (.extract (t 5) 1), s 3 (.mv (t 8)), s 4 (.mv (t 9))]) (.seq (.region false [s 10 (.mv (t 4)), s 2 (.mv (t 10))]) .ret)))
def pIsNumber.keep : List Nat := [0, 2, 4]
def pIsNumber.res : List RRes := [.tmp 2]
theorem pIsNumber.of {mo : Bool} {args : List AV} {r : AV} {frs : Fr} (hn : Nat.ble args.length Tryd.f12.ntmps = true) (h : aCode (Kn mo Tryd.prog) pIsNumber.keep 0 pIsNumber.code (doneK pIsNumber.res r frs) ⟨argEnv 0 args, [], []⟩) : Abs.Ret mo Tryd.prog 12 args r frs :=
  Abs.Ret.of_ir Tryd.func12 rfl (by kernel_rfl) (Nat.le_of_ble_eq_true hn) (by kernel_rfl) (by kernel_rfl) h
abbrev pIsNumber.Ret (args : List AV) (r : AV) (frs : Fr) : Prop := Abs.Ret true Tryd.prog 12 args r frs
def pCompareAtoms.code : ACode := (.seq (.region false [s 4 (.mv (.const (.int .i64 0)))]) (.seq (.region false [s 10 (.mv (t 0)), s 11 (.call 8 [(t 10)]), s 9 (.mv (t 11)), s 12 (.extract (t 9) 0), s 13 (.extract (t 9) 1), s 5 (.mv (t 12)), s 6 (.mv (t 13))]) (.seq (.region false [s 15 (.mv (t 1)), s 16 (.call 8 [(t 15)]), s 14 (.mv (t 16)), s 17 (.extract (t 14) 0), s 18 (.extract (t 14) 1), s 7 (.mv (t 17)), s 8 (.mv (t 18))]) (.seq (.block 0 (.seq (.region false [s 20 (.mv (t 6)), s 21 (.mv (t 20)), g 21 true 22 (.mv (t 8)), s 23 (.and (t 21) (t 22)), s 19 (.mv (t 23))]) (.cond (t 19) (.seq (.region false [s 24 (.mv (t 5)), s 25 (.mv (t 7)), s 26 (.call 33 [(t 24), (t 25)]), s 4 (.mv (t 26))]) .ret) (.seq (.region false [s 28 (.mv (t 6)), s 27 (.mv (t 28))]) (.cond (t 27) (.seq (.region false [s 4 (.mv (.const (.int .i64 (-1))))]) .ret) (.seq (.region false [s 30 (.mv (t 8)), s 29 (.mv (t 30))]) (.cond (t 29) (.seq (.region false [s 4 (.mv (.const (.int .i64 1)))]) .ret) .skip))))))) (.seq (.region false [s 31 (.mv (t 0)), s 32 (.mv (t 1)), s 33 (.call 34 [(t 31), (t 32)]), s 4 (.mv (t 33))]) .ret)))))
def pCompareAtoms.keep : List Nat := [0, 1, 4, 5, 6, 7, 8]
def pCompareAtoms.res : List RRes := [.tmp 4]
theorem pCompareAtoms.of {mo : Bool} {args : List AV} {r : AV} {frs : Fr} (hn : Nat.ble args.length Tryd.f17.ntmps = true) (h : aCode (Kn mo Tryd.prog) pCompareAtoms.keep 0 pCompareAtoms.code (doneK pCompareAtoms.res r frs) ⟨argEnv 0 args, [], []⟩) : Abs.Ret mo Tryd.prog 17 args r frs :=
  Abs.Ret.of_ir Tryd.func17 rfl (by kernel_rfl) (Nat.le_of_ble_eq_true hn) (by kernel_rfl) (by kernel_rfl) h
abbrev pCompareAtoms.Ret (args : List AV) (r : AV) (frs : Fr) : Prop := Abs.Ret true Tryd.prog 17 args r frs
def cmpInt.code : ACode := (.seq (.region false [s 4 (.mv (.const (.int .i64 0)))]) (.seq (.region false [s 7 (.mv (t 0)), s 8 (.call 42 [(t 7)]), s 5 (.mv (t 8))]) (.seq (.region false [s 9 (.mv (t 1)), s 10 (.call 42 [(t 9)]), s 6 (.mv (t 10))]) (.seq (.seq (.region false [s 11 (.mv (t 5))]) (.cond (t 11) (.seq (.seq (.region false [s 12 (.mv (t 6))]) (.cond (t 12) (.seq (.region false [s 4 (.mv (.const (.int .i64 0)))]) .ret) .skip)) (.seq (.region false [s 4 (.mv (.const (.int .i64 (-1))))]) .ret)) .skip)) (.seq (.seq (.region false [s 13 (.mv (t 6))]) (.cond (t 13) (.seq (.region false [s 4 (.mv (.const (.int .i64 1)))]) .ret) .skip)) (.seq (.seq (.region false [s 14 (.mv (t 0)), s 15 (.mv (t 1)), s 16 (.bin .lss (t 14) (t 15))]) (.cond (t 16) (.seq (.region false [s 4 (.mv (.const (.int .i64 (-1))))]) .ret) .skip)) (.seq (.seq (.region false [s 17 (.mv (t 0)), s 18 (.mv (t 1)), s 19 (.bin .gtr (t 17) (t 18))]) (.cond (t 19) (.seq (.region false [s 4 (.mv (.const (.int .i64 1)))]) .ret) .skip)) (.seq (.region false [s 4 (.mv (.const (.int .i64 0)))]) .ret))))))))
def cmpInt.keep : List Nat := [0, 1, 4, 5, 6]
def cmpInt.res : List RRes := [.tmp 4]
theorem cmpInt.of {mo : Bool} {args : List AV} {r : AV} {frs : Fr} (hn : Nat.ble args.length Tryd.f33.ntmps = true) (h : aCode (Kn mo Tryd.prog) cmpInt.keep 0 cmpInt.code (doneK cmpInt.res r frs) ⟨argEnv 0 args, [], []⟩) : Abs.Ret mo Tryd.prog 33 args r frs :=
  Abs.Ret.of_ir Tryd.func33 rfl (by kernel_rfl) (Nat.le_of_ble_eq_true hn) (by kernel_rfl) (by kernel_rfl) h
abbrev cmpInt.Ret (args : List AV) (r : AV) (frs : Fr) : Prop := Abs.Ret true Tryd.prog 33 args r frs
def cmpString.code : ACode := (.seq (.region false [s 4 (.mv (.const (.int .i64 0)))]) (.seq (.region false [s 7 (.mv (t 0)), s 8 (.call 43 [(t 7)]), s 5 (.mv (t 8))]) (.seq (.region false [s 9 (.mv (t 1)), s 10 (.call 43 [(t 9)]), s 6 (.mv (t 10))]) (.seq (.seq (.region false [s 11 (.mv (t 5))]) (.cond (t 11) (.seq (.seq (.region false [s 12 (.mv (t 6))]) (.cond (t 12) (.seq (.region false [s 4 (.mv (.const (.int .i64 0)))]) .ret) .skip)) (.seq (.region false [s 4 (.mv (.const (.int .i64 (-1))))]) .ret)) .skip)) (.seq (.seq (.region false [s 13 (.mv (t 6))]) (.cond (t 13) (.seq (.region false [s 4 (.mv (.const (.int .i64 1)))]) .ret) .skip)) (.seq (.seq (.region false [s 14 (.mv (t 0)), s 15 (.mv (t 1)), s 16 (.bin .lss (t 14) (t 15))]) (.cond (t 16) (.seq (.region false [s 4 (.mv (.const (.int .i64 (-1))))]) .ret) .skip)) (.seq (.seq (.region false [s 17 (.mv (t 0)), s 18 (.mv (t 1)), s 19 (.bin .gtr (t 17) (t 18))]) (.cond (t 19) (.seq (.region false [s 4 (.mv (.const (.int .i64 1)))]) .ret) .skip)) (.seq (.region false [s 4 (.mv (.const (.int .i64 0)))]) .ret))))))))
def cmpString.keep : List Nat := [0, 1, 4, 5, 6]
def cmpString.res : List RRes := [.tmp 4]
theorem cmpString.of {mo : Bool} {args : List AV} {r : AV} {frs : Fr} (hn : Nat.ble args.length Tryd.f34.ntmps = true) (h : aCode (Kn mo Tryd.prog) cmpString.keep 0 cmpString.code (doneK cmpString.res r frs) ⟨argEnv 0 args, [], []⟩) : Abs.Ret mo Tryd.prog 34 args r frs :=
  Abs.Ret.of_ir Tryd.func34 rfl (by kernel_rfl) (Nat.le_of_ble_eq_true hn) (by kernel_rfl) (by kernel_rfl) h
abbrev cmpString.Ret (args : List AV) (r : AV) (frs : Fr) : Prop := Abs.Ret true Tryd.prog 34 args r frs
def isNaNInt.code : ACode := (.seq (.region false [s 2 (.mv (.const (.bool false)))]) (.seq (.region false [s 3 (.mv (t 0)), s 4 (.mv (t 0)), s 5 (.bin .neq (t 3) (t 4)), s 2 (.mv (t 5))]) .ret))
def isNaNInt.keep : List Nat := [0, 2]
def isNaNInt.res : List RRes := [.tmp 2]
theorem isNaNInt.of {mo : Bool} {args : List AV} {r : AV} {frs : Fr} (hn : Nat.ble args.length Tryd.f42.ntmps = true) (h : aCode (Kn mo Tryd.prog) isNaNInt.keep 0 isNaNInt.code (doneK isNaNInt.res r frs) ⟨argEnv 0 args, [], []⟩) : Abs.Ret mo Tryd.prog 42 args r frs :=
  Abs.Ret.of_ir Tryd.func42 rfl (by kernel_rfl) (Nat.le_of_ble_eq_true hn) (by kernel_rfl) (by kernel_rfl) h
abbrev isNaNInt.Ret (args : List AV) (r : AV) (frs : Fr) : Prop := Abs.Ret true Tryd.prog 42 args r frs
def isNaNString.code : ACode := (.seq (.region false [s 2 (.mv (.const (.bool false)))]) (.seq (.region false [s 3 (.mv (t 0)), s 4 (.mv (t 0)), s 5 (.bin .neq (t 3) (t 4)), s 2 (.mv (t 5))]) .ret))
def isNaNString.keep : List Nat := [0, 2]
def isNaNString.res : List RRes := [.tmp 2]
theorem isNaNString.of {mo : Bool} {args : List AV} {r : AV} {frs : Fr} (hn : Nat.ble args.length Tryd.f43.ntmps = true) (h : aCode (Kn mo Tryd.prog) isNaNString.keep 0 isNaNString.code (doneK isNaNString.res r frs) ⟨argEnv 0 args, [], []⟩) : Abs.Ret mo Tryd.prog 43 args r frs :=
  Abs.Ret.of_ir Tryd.func43 rfl (by kernel_rfl) (Nat.le_of_ble_eq_true hn) (by kernel_rfl) (by kernel_rfl) h
abbrev isNaNString.Ret (args : List AV) (r : AV) (frs : Fr) : Prop := Abs.Ret true Tryd.prog 43 args r frs
end Go.Proofs.YtakojclbmhphnaaDoor
namespace Go.Proofs.YtakojclbmhphnaaDoor
open Abs
def letter (c : Int) : Bool := decide (97 ≤ c) && decide (c ≤ 122)
def digit (c : Int) : Bool := decide (48 ≤ c) && decide (c ≤ 57)
theorem isLetter.ret (x : Int) : isLetter.Ret [.val (.int .i32 x)] (.val (.bool (letter x))) [] := by
  refine isLetter.of rfl ?_; unfold letter
  repeat' first
    | (conv => whnf
       first | refine Need.mk (fun h => h) ?_ | refine Need.mk rfl ?_ | refine LitO.own rfl ?_ | refine FinVal.keep ?_ | refine Final.mk rfl rfl)
theorem isDigit.ret (x : Int) : isDigit.Ret [.val (.int .i32 x)] (.val (.bool (digit x))) [] := by
  refine isDigit.of rfl ?_; unfold digit
  repeat' first
    | (conv => whnf
       first | refine Need.mk (fun h => h) ?_ | refine Need.mk rfl ?_ | refine LitO.own rfl ?_ | refine FinVal.keep ?_ | refine Final.mk rfl rfl)
def alnum (c : UInt8) : Bool := letter c.toNat || digit c.toNat
def atomF (s : Str) : Bool := s.all alnum && (decide (1 ≤ (s.length : Int)) && decide ((s.length : Int) ≤ 8))
theorem wrap32_byte (c : UInt8) : IntKind.i32.wrap (c.toNat : Int) = c.toNat := by have h := c.toNat_lt; exact Go.IntWalk.i32_in _ ⟨by omega, by omega⟩
theorem atomF_no {x : Str} {i : Nat} (hi : i < x.length) (h : alnum (x.getD i 0) = false) : atomF x = false := by
  have : x.all alnum = false := by
    rw [List.all_eq_false]
    refine ⟨x.getD i 0, ?_, by rw [h]; simp⟩
    simp [List.getD, hi]
  simp [atomF, this]
theorem all_succ {x : Str} {i : Nat} (hi : i < x.length) (h : (x.take i).all alnum = true) (hc : alnum (x.getD i 0) = true) : (x.take (i + 1)).all alnum = true := by
  rw [take_succ' 0 hi, List.all_append, h]; simpa using hc
theorem all_end {x : Str} {i : Nat} (hi : x.length ≤ i) (h : (x.take i).all alnum = true) : x.all alnum = true := by
  rwa [List.take_of_length_le hi] at h
theorem nor {p q : Bool} (h : (!p && !q) = true) : (p || q) = false := by cases p <;> cases q <;> simp_all
theorem nor' {p q : Bool} (h : (!p && !q) = false) : (p || q) = true := by cases p <;> cases q <;> simp_all
theorem dec_cases (x : Str) (i : Nat) (hi : i < x.length) :
    ((x.getD i 0).toNat < 128 ∧ decodeS x i = ((x.getD i 0).toNat, 1)) ∨ (128 ≤ (x.getD i 0).toNat ∧ 128 ≤ (decodeS x i).1) := by
  have hs : i < (⟨x.toArray⟩ : ByteArray).size := hi
  have he : (⟨x.toArray⟩ : ByteArray)[i]'hs = x.getD i 0 := by
    have : (⟨x.toArray⟩ : ByteArray)[i]'hs = x[i] := rfl
    rw [this]; simp [List.getD, hi]
  rcases Nat.lt_or_ge (x.getD i 0).toNat 128 with h | h
  · exact .inl ⟨h, by unfold decodeS; rw [decode_ascii _ _ hs (by rw [he]; exact h), he]⟩
  · exact .inr ⟨h, (decode_high _ _ hs (by rw [he]; exact h)).1⟩
theorem pIsAtom.ret (x : Str) (hx : x.length ≤ 1048576) : pIsAtom.Ret [.str x] (.val (.bool (atomF x))) [] := by
  refine pIsAtom.of rfl ?_
  repeat' first
    | (conv => whnf
       first | refine Need.mk (fun h => h) ?_ | refine Need.mk rfl ?_ | refine Fork.mk (fun _ => ?_) (fun _ => ?_) | refine LitO.own rfl ?_ | refine FinVal.keep ?_ | refine Final.mk ?_ rfl)
    | refine AV.bool_congr ?_
  all_goals try refine ALoop.mk Nat (fun i => ⟨[(0, .str x), (13, .bptr 0 0)], [.iter x i], []⟩) (fun i => i ≤ x.length ∧ (x.take i).all alnum = true) (fun i => x.length - i) ⟨0, ⟨Nat.zero_le _, rfl⟩, ?_⟩ (fun i hi => ?_)
  rotate_left
  · repeat' first
      | exact trivial | refine Weak.mk ?_ ?_ ?_ ?_ (Or.inl (Nat.le_of_ble_eq_true rfl)) | refine And.intro ?_ ?_ | with_reducible rfl | exact Nat.le_of_ble_eq_true rfl | refine AV.str_congr ?_ | (apply rfl)
  repeat' first
    | contradiction
    | (conv => whnf
       first | refine Need.mk (fun h => h) ?_ | refine Fork.dec (fun _ => ?_) (fun _ => ?_) | refine Fork.mk (fun _ => ?_) (fun _ => ?_) | refine Round.mk ?_ | refine FinVal.keep ?_ | refine Final.mk ?_ rfl | refine ACall.scalA _ _ (isLetter.ret _) rfl ?_ | refine AGCall.mkA _ _ (fun hg => isDigit.ret _) rfl ?_)
    | refine AV.bool_congr ?_
  · rename_i h0 _ h1
    refine (atomF_no h0 ?_).symm
    rcases dec_cases x i h0 with ⟨_, h⟩ | ⟨h, _⟩
    · rw [h] at h1; exact nor h1
    · rw [List.getD_eq_getElem?_getD] at h; simp [alnum, letter, digit]; omega
  · rename_i h0 _ h1
    rcases dec_cases x i h0 with ⟨_, h⟩ | ⟨_, h⟩
    · rw [h] at h1
      refine ⟨i + 1, ⟨h0, all_succ h0 hi.2 (nor' h1)⟩, ?_, by omega⟩
      repeat' first
        | exact trivial | refine Weak.mk ?_ ?_ ?_ ?_ (Or.inl (Nat.le_of_ble_eq_true rfl)) | refine And.intro ?_ ?_ | with_reducible rfl | exact Nat.le_of_ble_eq_true rfl | refine AV.str_congr ?_ | (apply rfl)
      simp [h]
    · exfalso
      revert h1; simp [letter, digit]; omega
  · rename_i h1 h2 _
    simp only [Bool.or_eq_false_iff, decide_eq_false_iff_not] at h1
    have h3 : x ≠ [] := by simpa using h1.1
    have h4 : 0 < x.length := List.length_pos_iff.2 h3
    have h5 : (1 : Int) ≤ x.length := by omega
    have h6 : (x.length : Int) ≤ 8 := by omega
    simp [atomF, all_end (by omega) hi.2, h5, h6]
  · rename_i h1
    rcases Bool.or_eq_true_iff.1 h1 with h | h
    · have h3 : x = [] := by simpa using h
      subst h3; rfl
    · have : ¬ ((x.length : Int) ≤ 8) := by have := of_decide_eq_true h; omega
      simp [atomF, this]
end Go.Proofs.YtakojclbmhphnaaDoor
namespace Go.Proofs.YtakojclbmhphnaaDoor
open Abs
def fmt (n : Nat) : Str := if h : n < 10 then [UInt8.ofNat (48 + n)] else fmt (n / 10) ++ [UInt8.ofNat (48 + n % 10)]
termination_by n
decreasing_by omega
def dval (n : Nat) (c : UInt8) : Nat := 10 * n + (c.toNat - 48)
def valA (a : Nat) (s : Str) : Nat := s.foldl dval a
def dig (c : UInt8) : Bool := digit c.toNat
theorem dig_range {c : UInt8} (h : dig c = true) : 48 ≤ c.toNat ∧ c.toNat ≤ 57 := by
  simp [dig, digit] at h; omega
theorem fmt_small {n : Nat} (h : n < 10) : fmt n = [UInt8.ofNat (48 + n)] := by rw [fmt, dif_pos h]
theorem fmt_big {n : Nat} (h : 10 ≤ n) : fmt n = fmt (n / 10) ++ [UInt8.ofNat (48 + n % 10)] := by rw [fmt, dif_neg (by omega)]
theorem ofNat_dig {c : UInt8} (h : dig c = true) : UInt8.ofNat (48 + (c.toNat - 48)) = c := by
  have := dig_range h
  have e : 48 + (c.toNat - 48) = c.toNat := by omega
  rw [e]; exact UInt8.ofNat_toNat
theorem valA_lt {s : Str} (h : s.all dig = true) (a : Nat) : valA a s < (a + 1) * 10 ^ s.length := by
  induction s generalizing a with
  | nil => simp [valA]
  | cons c s ih =>
    simp only [List.all_cons, Bool.and_eq_true] at h
    have h1 := ih h.2 (dval a c)
    have h2 := dig_range h.1
    have h3 : (dval a c + 1) ≤ (a + 1) * 10 := by unfold dval; omega
    have h4 := Nat.mul_le_mul_right (10 ^ s.length) h3
    have h5 : (a + 1) * 10 * 10 ^ s.length = (a + 1) * 10 ^ (c :: s).length := by rw [List.length_cons, Nat.pow_succ, Nat.mul_assoc, Nat.mul_comm 10]
    show valA (dval a c) s < _
    omega
theorem valA_ge (s : Str) (a : Nat) : a * 10 ^ s.length ≤ valA a s := by
  induction s generalizing a with
  | nil => simp [valA]
  | cons c s ih =>
    have h1 := ih (dval a c)
    have h3 : a * 10 ≤ dval a c := by unfold dval; omega
    have h4 := Nat.mul_le_mul_right (10 ^ s.length) h3
    have h5 : a * 10 * 10 ^ s.length = a * 10 ^ (c :: s).length := by rw [List.length_cons, Nat.pow_succ, Nat.mul_assoc, Nat.mul_comm 10]
    show _ ≤ valA (dval a c) s
    omega
theorem fmt_valA {s : Str} (h : s.all dig = true) (a : Nat) (ha : 0 < a) : fmt (valA a s) = fmt a ++ s := by
  induction s generalizing a with
  | nil => simp [valA]
  | cons c s ih =>
    simp only [List.all_cons, Bool.and_eq_true] at h
    have h2 := dig_range h.1
    show fmt (valA (dval a c) s) = _
    rw [ih h.2 (dval a c) (by unfold dval; omega)]
    have h3 : dval a c / 10 = a := by unfold dval; omega
    have h4 : dval a c % 10 = c.toNat - 48 := by unfold dval; omega
    rw [fmt_big (n := dval a c) (by unfold dval; omega), h3, h4, ofNat_dig h.1]
    simp
theorem fmt_head (n : Nat) (h : 0 < n) : ∃ c r, fmt n = c :: r ∧ c ≠ 48 := by
  induction n using Nat.strongRecOn with
  | _ n ih =>
    rcases Nat.lt_or_ge n 10 with h1 | h1
    · refine ⟨_, [], fmt_small h1, fun e => ?_⟩
      have := congrArg UInt8.toNat e
      simp at this
      omega
    · obtain ⟨c, r, e, hc⟩ := ih (n / 10) (by omega) (by omega)
      exact ⟨c, r ++ [_], by rw [fmt_big h1, e]; rfl, hc⟩
/-- a text that is a number, as it is written -/
def isNum (s : Str) : Bool := match s with
  | [] => false
  | [c] => dig c
  | c :: d :: s => (c :: d :: s).all dig && c != 48
theorem fmt_of_isNum {s : Str} (h : isNum s = true) : fmt (valA 0 s) = s := by
  match s, h with
  | [c], h =>
    have h2 := dig_range h
    have e : valA 0 [c] = c.toNat - 48 := by simp [valA, dval]
    rw [e, fmt_small (by omega), ofNat_dig h]
  | c :: d :: s, h =>
    simp only [isNum, Bool.and_eq_true, bne_iff_ne, ne_eq] at h
    have hc : dig c = true := by have := h.1; simp only [List.all_cons, Bool.and_eq_true] at this; exact this.1
    have hs : (d :: s).all dig = true := by have := h.1; rw [List.all_cons, Bool.and_eq_true] at this; exact this.2
    have h2 := dig_range hc
    have h3 : c.toNat ≠ 48 := fun e => h.2 (by rw [← UInt8.ofNat_toNat (x := c), e]; rfl)
    show fmt (valA (dval 0 c) (d :: s)) = _
    have e : dval 0 c = c.toNat - 48 := by simp [dval]
    rw [e, fmt_valA hs _ (by omega), fmt_small (by omega), ofNat_dig hc]
    rfl
theorem isNum_of_fmt {s : Str} (hd : s.all dig = true) (h : fmt (valA 0 s) = s) : isNum s = true := by
  match s, hd, h with
  | [], _, h =>
    exfalso
    have : fmt (valA 0 []) = [48] := by simp [valA, fmt_small]
    rw [this] at h; cases h
  | [c], hd, _ => simpa [isNum] using hd
  | c :: d :: s, hd, h =>
    simp only [isNum, hd, Bool.true_and, bne_iff_ne, ne_eq]
    intro hc
    subst hc
    rcases Nat.eq_zero_or_pos (valA 0 (48 :: d :: s)) with h0 | h0
    · rw [h0] at h
      have : fmt 0 = [48] := by simp [fmt_small]
      rw [this] at h; cases h
    · obtain ⟨c, r, e, hc⟩ := fmt_head _ h0
      rw [h] at e; cases e; exact hc rfl
theorem isNum_digits {s : Str} (h : isNum s = true) : s.all dig = true := by
  match s, h with
  | [c], h => simpa [isNum] using h
  | c :: d :: s, h => simp only [isNum, Bool.and_eq_true] at h; exact h.1
theorem isNum_len {s : Str} (h : isNum s = true) (hv : valA 0 s ≤ 9999) : s.length ≤ 4 := by
  match s, h with
  | [c], _ => simp
  | c :: d :: s, h =>
    have hd := isNum_digits h
    simp only [isNum, Bool.and_eq_true, bne_iff_ne, ne_eq] at h
    have hc : dig c = true := by have := h.1; simp only [List.all_cons, Bool.and_eq_true] at this; exact this.1
    have h2 := dig_range hc
    have h3 : c.toNat ≠ 48 := fun e => h.2 (by rw [← UInt8.ofNat_toNat (x := c), e]; rfl)
    have h4 : valA (dval 0 c) (d :: s) ≤ 9999 := hv
    have h5 := valA_ge (d :: s) (dval 0 c)
    rcases Nat.lt_or_ge 4 (c :: d :: s).length with h6 | h6
    · exfalso
      have h7 : 10 ^ 4 ≤ 10 ^ (d :: s).length := Nat.pow_le_pow_right (by omega) (by simp at h6 ⊢; omega)
      have h8 : 1 ≤ dval 0 c := by unfold dval; omega
      have h9 := Nat.mul_le_mul h8 h7
      omega
    · exact h6
def numF (s : Str) : Bool := isNum s && decide (s.length ≤ 4)
def parseF (s : Str) : Int × Bool := if numF s then (valA 0 s, true) else (0, false)
theorem valA_lt4 {s : Str} (h : s.all dig = true) (hl : s.length ≤ 4) : valA 0 s ≤ 9999 := by
  have h1 := valA_lt h 0
  have h2 : 10 ^ s.length ≤ 10 ^ 4 := Nat.pow_le_pow_right (by omega) hl
  omega
theorem fmt_len4 {n : Nat} (h : n ≤ 9999) : (fmt n).length ≤ 4 := by
  rcases Nat.lt_or_ge n 10 with h1 | h1
  · rw [fmt_small h1]; simp
  rw [fmt_big h1]
  rcases Nat.lt_or_ge (n / 10) 10 with h2 | h2
  · rw [fmt_small h2]; simp
  rw [fmt_big h2]
  rcases Nat.lt_or_ge (n / 10 / 10) 10 with h3 | h3
  · rw [fmt_small h3]; simp
  rw [fmt_big h3]
  rw [fmt_small (n := n / 10 / 10 / 10) (by omega)]; simp
theorem valA_snoc (s : Str) (c : UInt8) : valA 0 (s ++ [c]) = 10 * valA 0 s + (c.toNat - 48) := by
  unfold valA; rw [List.foldl_append]; rfl
end Go.Proofs.YtakojclbmhphnaaDoor
namespace Go.Proofs
open Go.Shelf
def Tryd.laysM171_ren : Go.Shelf.Ren := ⟨fun | 171 => 29 | 243 => 39 | 246 => 45 | 283 => 50 | 284 => 51 | 285 => 52 | 286 => 53 | 129 => 59 | 317 => 58 | 318 => 60 | 319 => 61 | 320 => 62 | 337 => 68 | 338 => 69 | n => n, fun | 3 => 3 | 9 => 9 | 2 => 2 | 4 => 4 | 171 => 58 | 0 => 0 | 53 => 59 | 37 => 22 | 5 => 5 | 173 => 62 | 212 => 70 | 51 => 71 | 20 => 20 | 213 => 72 | 46 => 55 | 232 => 81 | 233 => 82 | n => n, fun | 17 => 0 | 18 => 4 | 19 => 5 | n => n⟩
theorem Tryd.laysM171 : Go.Proofs.LaysM.n171 Tryd.prog Tryd.laysM171_ren := {
  mixed := by kernel_rfl
  f129 := Tryd.func59.trans (congrArg some (by kernel_rfl))
  f171 := Tryd.func29.trans (congrArg some (by kernel_rfl))
  f243 := Tryd.func39.trans (congrArg some (by kernel_rfl))
  f246 := Tryd.func45.trans (congrArg some (by kernel_rfl))
  f283 := Tryd.func50.trans (congrArg some (by kernel_rfl))
  f284 := Tryd.func51.trans (congrArg some (by kernel_rfl))
  f285 := Tryd.func52.trans (congrArg some (by kernel_rfl))
  f286 := Tryd.func53.trans (congrArg some (by kernel_rfl))
  f317 := Tryd.func58.trans (congrArg some (by kernel_rfl))
  f318 := Tryd.func60.trans (congrArg some (by kernel_rfl))
  f319 := Tryd.func61.trans (congrArg some (by kernel_rfl))
  f320 := Tryd.func62.trans (congrArg some (by kernel_rfl))
  f337 := Tryd.func68.trans (congrArg some (by kernel_rfl))
  f338 := Tryd.func69.trans (congrArg some (by kernel_rfl))
  t0 := Tryd.underlying0
  a0 := Tryd.isAgg0
  z0 := Tryd.sizeOf0
  v0 := Tryd.zeroValue0
  t2 := Tryd.underlying2
  a2 := Tryd.isAgg2
  z2 := Tryd.sizeOf2
  v2 := Tryd.zeroValue2
  t3 := Tryd.underlying3
  a3 := Tryd.isAgg3
  z3 := Tryd.sizeOf3
  v3 := Tryd.zeroValue3
  t4 := Tryd.underlying4
  a4 := Tryd.isAgg4
  z4 := Tryd.sizeOf4
  v4 := Tryd.zeroValue4
  t5 := Tryd.underlying5
  a5 := Tryd.isAgg5
  z5 := Tryd.sizeOf5
  v5 := Tryd.zeroValue5
  t9 := Tryd.underlying9
  a9 := Tryd.isAgg9
  z9 := Tryd.sizeOf9
  v9 := Tryd.zeroValue9
  t20 := Tryd.underlying20
  a20 := Tryd.isAgg20
  z20 := Tryd.sizeOf20
  v20 := Tryd.zeroValue20
  t37 := Tryd.underlying22
  a37 := Tryd.isAgg22
  z37 := Tryd.sizeOf22
  v37 := Tryd.zeroValue22
  t46 := Tryd.underlying55
  a46 := Tryd.isAgg55
  z46 := Tryd.sizeOf55
  v46 := Tryd.zeroValue55
  t51 := Tryd.underlying71
  a51 := Tryd.isAgg71
  z51 := Tryd.sizeOf71
  v51 := Tryd.zeroValue71
  t53 := Tryd.underlying59
  a53 := Tryd.isAgg59
  z53 := Tryd.sizeOf59
  v53 := Tryd.zeroValue59
  t171 := Tryd.underlying58
  a171 := Tryd.isAgg58
  z171 := Tryd.sizeOf58
  v171 := Tryd.zeroValue58
  t173 := Tryd.underlying62
  a173 := Tryd.isAgg62
  z173 := Tryd.sizeOf62
  v173 := Tryd.zeroValue62
  t212 := Tryd.underlying70
  a212 := Tryd.isAgg70
  z212 := Tryd.sizeOf70
  v212 := Tryd.zeroValue70
  t213 := Tryd.underlying72
  a213 := Tryd.isAgg72
  z213 := Tryd.sizeOf72
  t232 := Tryd.underlying81
  a232 := Tryd.isAgg81
  z232 := Tryd.sizeOf81
  v232 := Tryd.zeroValue81
  t233 := Tryd.underlying82
  a233 := Tryd.isAgg82
  z233 := Tryd.sizeOf82
  v233 := Tryd.zeroValue82
  g17 := by kernel_rfl
  g18 := by kernel_rfl
  g19 := by kernel_rfl
  i0 := by kernel_rfl
  i2 := by kernel_rfl
  i3 := by kernel_rfl
  i4 := by kernel_rfl
  i5 := by kernel_rfl
  i9 := by kernel_rfl
  i20 := by kernel_rfl
  i37 := by kernel_rfl
  i46 := by kernel_rfl
  i51 := by kernel_rfl
  i53 := by kernel_rfl
  i171 := by kernel_rfl
  i173 := by kernel_rfl
  i212 := by kernel_rfl
  i232 := by kernel_rfl
  i233 := by kernel_rfl
  m17 := by kernel_rfl
  m18 := by kernel_rfl
  m19 := by kernel_rfl }
open Go.RowKit Go.Sort Go.Lib in
theorem Tryd.strconv_Itoa (n : Int) (h0 : -9223372036854775808 ≤ n) (h1 : n ≤ 9223372036854775807) (w : World) (htab : Lib.TabIs Tryd.prog w "internal/strconv.uint64pow10" .u64 Lib.pow10Tab) :
    Calls Tryd.prog 29 #[.int .i64 n] w fun e w' => e = .returned (.string ⟨(Lib.itoa n).toArray⟩) ∧ ∃ k os, w' = grow (w.drewN k) os := Any.strconv_Itoa Tryd.laysM171 n h0 h1 w htab
end Go.Proofs
namespace Go.Proofs.YtakojclbmhphnaaDoor
open Abs
def pFormatInt.code : ACode := (.seq (.region false [s 2 (.mv (.const (.string (.mk #[]))))]) (.seq (.region false [s 3 (.mv (t 0)), s 4 (.call 29 [(t 3)]), s 2 (.mv (t 4))]) .ret))
def pFormatInt.keep : List Nat := [0, 2]
def pFormatInt.res : List RRes := [.tmp 2]
theorem pFormatInt.ofS {mo : Bool} {args : List AV} {r : AV} (hr : isScalR r = true) (hn : Nat.ble args.length Tryd.f9.ntmps = true) (h : aCode (Kn mo Tryd.prog) pFormatInt.keep 0 pFormatInt.code (doneS pFormatInt.res r) ⟨argEnv 0 args, [], []⟩) : Abs.Ret mo Tryd.prog 9 args r [] :=
  Abs.Ret.of_irS hr Tryd.func9 rfl (by kernel_rfl) (Nat.le_of_ble_eq_true hn) (by kernel_rfl) (by kernel_rfl) h
abbrev pFormatInt.Ret (args : List AV) (r : AV) (frs : Fr) : Prop := Abs.Ret true Tryd.prog 9 args r frs
end Go.Proofs.YtakojclbmhphnaaDoor
namespace Go.Proofs.YtakojclbmhphnaaDoor
open Abs
variable {mo : Bool}
theorem fmt_dec (n : Nat) : Lib.decDigits n = fmt n := by
  induction n using Nat.strongRecOn with
  | _ n ih =>
    rw [Lib.decDigits, fmt]
    split
    · rfl
    · rw [ih _ (by omega)]
theorem fmt_len (k : Nat) : ∀ n : Nat, n < 10 ^ (k + 1) → (fmt n).length ≤ k + 1 := by
  induction k with
  | zero => intro n h; rw [fmt_small (by simpa using h)]; simp
  | succ k ih =>
    intro n h
    by_cases h10 : n < 10
    · rw [fmt_small h10]; simp
    · rw [fmt_big (by omega), List.length_append]
      have := ih (n / 10) (by rw [Nat.pow_succ] at h; omega)
      simp only [List.length_cons, List.length_nil]; omega
theorem itoa_nat (n : Nat) : Lib.itoa (n : Int) = fmt n := by
  unfold Lib.itoa
  rw [if_neg (by omega), fmt_dec]; rfl
theorem itoa_neg {n : Int} (h : n < 0) : Lib.itoa n = 45 :: fmt (-n).toNat := by
  unfold Lib.itoa
  rw [if_pos h, fmt_dec]
  congr 2
  omega
theorem itoa_len {n : Int} (h0 : -9223372036854775808 ≤ n) (h1 : n ≤ 9223372036854775807) : (Lib.itoa n).length ≤ 20 := by
  by_cases h : n < 0
  · rw [itoa_neg h, List.length_cons]
    have := fmt_len 18 (-n).toNat (by omega)
    omega
  · obtain ⟨m, rfl⟩ : ∃ m : Nat, n = m := ⟨n.toNat, by omega⟩
    rw [itoa_nat]
    have := fmt_len 18 m (by omega)
    omega
theorem below_grow {B : Nat} {a w : World} (h : Go.RowKit.Below B a w) (hB : B ≤ w.heap.size) (os : Array Obj) : Go.RowKit.Below B a (Sort.grow w os) :=
  h.trans ⟨rfl, rfl, rfl, by simp [Sort.grow], fun k hk => by simp only [Sort.grow]; rw [Array.getElem?_append_left (by omega)]⟩
theorem tab_pow {w : World} {box : List BId} (h : CondB w box) : Lib.TabIs Tryd.prog w "internal/strconv.uint64pow10" .u64 Lib.pow10Tab := by
  obtain ⟨⟨t, m, h1⟩, _⟩ := h _ (List.mem_singleton.2 rfl)
  unfold Lib.TabIs World.var?
  rw [show Tryd.prog.globalNamed "internal/strconv.uint64pow10" = some 0 by kernel_rfl]
  simp only [Option.bind_some, h1]
theorem libItoa.ret (n : Int) (h0 : -9223372036854775808 ≤ n) (h1 : n ≤ 9223372036854775807) : Abs.Ret mo Tryd.prog 29 [.val (.int .i64 n)] (.str (Lib.itoa n)) [] := by
  rw [Ret_eq]
  refine ⟨by kernel_rfl, fun w F vs hcond hout hB => ?_⟩
  obtain ⟨v0, rfl⟩ : ∃ v0, vs = #[v0] := by
    have := hB.1
    match vs, this with
    | ⟨[a]⟩, _ => exact ⟨a, rfl⟩
  obtain ⟨h2, _⟩ := Both.cons.1 hB
  cases h2
  refine (Tryd.strconv_Itoa n h0 h1 w (tab_pow hcond)).mono ?_
  rintro e w' ⟨rfl, k, os, rfl⟩
  refine ⟨_, F, [], [], rfl, ⟨below_grow (below_drewN (Go.RowKit.Below.refl _ _) k) (Nat.le_refl _) os, fun _ => Nat.le_add_right _ _⟩, fun _ _ => rfl, fun b h => hout b (Nat.le_trans (by simp [Sort.grow, World.drewN]) h), rfl, by simp, by simp, .str _⟩
theorem sFormatInt.nat (n : Nat) (h : n ≤ 9223372036854775807) : sFormatInt.Ret [.val (.int .i64 n)] (.str (fmt n)) [] := by
  refine sFormatInt.ofS rfl rfl ?_
  repeat' first
    | contradiction | exact trivial
    | (conv => whnf
       first | refine Need.mk (fun h => h) ?_ | refine Need.mk rfl ?_ | refine Need.mk ⟨rfl, Nat.le_of_ble_eq_true rfl⟩ ?_ | refine Need.mk (Nat.le_of_ble_eq_true rfl) ?_ | refine Need.fin ?_ | refine Need.mk ?_ ?_ | refine Ix.strsF rfl ?_ | refine Ix.strs rfl ?_ ?_ | refine Cut.strs rfl ?_ ?_ | refine Ix.mapF (fun _ => rfl) ?_ | refine Ix.map (fun _ => rfl) ?_ ?_ | refine Cut.map (fun _ => rfl) ?_ ?_ | refine Fork.yes (by assumption) ?_ | refine Fork.no (by assumption) ?_ | refine Fork.decYes (by omega) ?_ | refine Fork.decNo (by omega) ?_ | refine Fork.dec (fun _ => ?_) (fun _ => ?_) | refine Fork.bne (fun _ => ?_) (fun _ => ?_) | refine Fork.beq (fun _ => ?_) (fun _ => ?_) | refine Fork.seq (fun _ => ?_) (fun _ => ?_) | refine Fork.sne (fun _ => ?_) (fun _ => ?_) | refine Fork.neg (fun _ => ?_) (fun _ => ?_) | refine Fork.mk (fun _ => ?_) (fun _ => ?_) | refine HAlt.mk ?_ ?_ | apply HJoin.mk3 | exact HEnd.mk rfl rfl rfl | refine HEnd.mk ?_ ?_ ?_ | refine Round.mk ?_ | refine NilQ.mk (fun b hb => ?_) | refine forceK_of ?_ | refine forceBx_of ?_ | refine unG_old ?_ | refine unG_gv ?_ | refine Lit.read rfl ?_ | refine LitO.own rfl ?_ | refine FinVal.keep ?_ | refine FinAgg.keep ?_ | refine Final.mk rfl rfl | refine Final.mk ?_ rfl | refine Final.mk ?_ ?_ | refine FinalT.mk ?_ ?_ | refine FinalI.mk ?_ | refine FinalC.allA ?_)
    | refine AV.bool_congr ?_ | refine AV.int_congr ?_ | refine AV.str_congr ?_ | refine AV.list_congr ?_ | with_reducible rfl | refine fr1 ?_ | refine fr2 ?_ ?_
  refine ALoop.mk (Nat × Str × Fr) (fun a => ⟨[(0, .val (.int .i64 a.1)), (3, .str a.2.1)], [], a.2.2⟩) (fun a => fmt a.1 ++ a.2.1 = fmt n ∧ a.1 ≤ 9223372036854775807) (fun a => a.1) ⟨(n, [], []), ⟨by simp, h⟩, ?_⟩ (fun a ha => ?_)
  · repeat' first
      | exact trivial | refine Weak.mk ?_ ?_ ?_ ?_ (Or.inl (Nat.le_of_ble_eq_true rfl)) | refine Weak.mk ?_ ?_ ?_ ?_ (Or.inr ⟨(by repeat' first | exact trivial | exact Nat.le_of_ble_eq_true rfl | refine And.intro ?_ ?_), (by repeat' first | exact trivial | exact Nat.le_of_ble_eq_true rfl | refine And.intro ?_ ?_)⟩) | refine Weak.mk ?_ ?_ ?_ ?_ ?_ | refine And.intro ?_ ?_ | with_reducible rfl | exact Nat.le_of_ble_eq_true rfl | refine fr1 ?_ | refine fr2 ?_ ?_ | refine AV.int_congr ?_ | refine AV.bool_congr ?_ | refine AV.str_congr ?_ | refine AV.list_congr ?_ | refine AV.bsl_congr ?_ ?_ | (apply rfl)
  repeat' first
    | contradiction | exact trivial
    | (conv => whnf
       first | refine Need.mk (fun h => h) ?_ | refine Need.mk rfl ?_ | refine Need.mk ⟨rfl, Nat.le_of_ble_eq_true rfl⟩ ?_ | refine Need.mk (Nat.le_of_ble_eq_true rfl) ?_ | refine Need.fin ?_ | refine Need.mk ?_ ?_ | refine Ix.strsF rfl ?_ | refine Ix.strs rfl ?_ ?_ | refine Cut.strs rfl ?_ ?_ | refine Ix.mapF (fun _ => rfl) ?_ | refine Ix.map (fun _ => rfl) ?_ ?_ | refine Cut.map (fun _ => rfl) ?_ ?_ | refine Fork.yes (by assumption) ?_ | refine Fork.no (by assumption) ?_ | refine Fork.decYes (by omega) ?_ | refine Fork.decNo (by omega) ?_ | refine Fork.dec (fun _ => ?_) (fun _ => ?_) | refine Fork.bne (fun _ => ?_) (fun _ => ?_) | refine Fork.beq (fun _ => ?_) (fun _ => ?_) | refine Fork.seq (fun _ => ?_) (fun _ => ?_) | refine Fork.sne (fun _ => ?_) (fun _ => ?_) | refine Fork.neg (fun _ => ?_) (fun _ => ?_) | refine Fork.mk (fun _ => ?_) (fun _ => ?_) | refine HAlt.mk ?_ ?_ | apply HJoin.mk3 | exact HEnd.mk rfl rfl rfl | refine HEnd.mk ?_ ?_ ?_ | refine Round.mk ?_ | refine NilQ.mk (fun b hb => ?_) | refine forceK_of ?_ | refine forceBx_of ?_ | refine unG_old ?_ | refine unG_gv ?_ | refine Lit.read rfl ?_ | refine LitO.own rfl ?_ | refine FinVal.keep ?_ | refine FinAgg.keep ?_ | refine Final.mk rfl rfl | refine Final.mk ?_ rfl | refine Final.mk ?_ ?_ | refine FinalT.mk ?_ ?_ | refine FinalI.mk ?_ | refine FinalC.allA ?_)
    | refine AV.bool_congr ?_ | refine AV.int_congr ?_ | refine AV.str_congr ?_ | refine AV.list_congr ?_ | with_reducible rfl | refine fr1 ?_ | refine fr2 ?_ ?_
  conv => whnf
  have hd : (↑a.1 : Int).tmod 10 = (a.1 % 10 : Nat) := by rw [Int.tmod_eq_emod_of_nonneg (by omega)]; omega
  have hq : IntKind.i64.wrap ((↑a.1 : Int).tdiv 10) = (a.1 / 10 : Nat) := by rw [Int.tdiv_eq_ediv_of_nonneg (by omega), wrap64 (by omega) (by omega)]; omega
  have hl : a.2.1.length ≤ 20 := by
    have h1 := congrArg List.length ha.1
    have h2 := fmt_len 18 n (by omega)
    rw [List.length_append] at h1
    omega
  refine Bytes.mk [UInt8.ofNat (48 + a.1 % 10)] ?_ ?_
  · rw [hd, wrap64 (by omega) (by omega)]
    simp only [List.map_cons, List.map_nil, byteCell]
    rw [Go.IntWalk.u8_in _ ⟨by omega, by omega⟩]
    congr 4
    simp
    omega
  repeat' first
    | contradiction | exact trivial
    | (conv => whnf
       first | refine Need.mk (fun h => h) ?_ | refine Need.mk rfl ?_ | refine Need.mk ⟨rfl, Nat.le_of_ble_eq_true rfl⟩ ?_ | refine Need.mk (Nat.le_of_ble_eq_true rfl) ?_ | refine Need.fin ?_ | refine Need.mk ?_ ?_ | refine Ix.strsF rfl ?_ | refine Ix.strs rfl ?_ ?_ | refine Cut.strs rfl ?_ ?_ | refine Ix.mapF (fun _ => rfl) ?_ | refine Ix.map (fun _ => rfl) ?_ ?_ | refine Cut.map (fun _ => rfl) ?_ ?_ | refine Fork.yes (by assumption) ?_ | refine Fork.no (by assumption) ?_ | refine Fork.decYes (by omega) ?_ | refine Fork.decNo (by omega) ?_ | refine Fork.dec (fun _ => ?_) (fun _ => ?_) | refine Fork.bne (fun _ => ?_) (fun _ => ?_) | refine Fork.beq (fun _ => ?_) (fun _ => ?_) | refine Fork.seq (fun _ => ?_) (fun _ => ?_) | refine Fork.sne (fun _ => ?_) (fun _ => ?_) | refine Fork.neg (fun _ => ?_) (fun _ => ?_) | refine Fork.mk (fun _ => ?_) (fun _ => ?_) | refine HAlt.mk ?_ ?_ | apply HJoin.mk3 | exact HEnd.mk rfl rfl rfl | refine HEnd.mk ?_ ?_ ?_ | refine Round.mk ?_ | refine NilQ.mk (fun b hb => ?_) | refine forceK_of ?_ | refine forceBx_of ?_ | refine unG_old ?_ | refine unG_gv ?_ | refine Lit.read rfl ?_ | refine LitO.own rfl ?_ | refine FinVal.keep ?_ | refine FinAgg.keep ?_ | refine Final.mk rfl rfl | refine Final.mk ?_ rfl | refine Final.mk ?_ ?_ | refine FinalT.mk ?_ ?_ | refine FinalI.mk ?_ | refine FinalC.allA ?_)
    | refine AV.bool_congr ?_ | refine AV.int_congr ?_ | refine AV.str_congr ?_ | refine AV.list_congr ?_ | with_reducible rfl | refine fr1 ?_ | refine fr2 ?_ ?_
  · simp only [List.length_cons, List.length_nil]; omega
  · rename_i h1
    rw [hq] at h1
    rw [← ha.1, fmt_small (by omega)]
    have : a.1 % 10 = a.1 := by omega
    rw [this]
  · rename_i h1
    rw [hq] at h1
    refine ⟨(a.1 / 10, [UInt8.ofNat (48 + a.1 % 10)] ++ a.2.1, a.2.2 ++ [(5, 1, 1)]), ⟨?_, by show a.1 / 10 ≤ 9223372036854775807; omega⟩, ?_, by show a.1 / 10 < a.1; omega⟩
    · rw [← ha.1, fmt_big (n := a.1) (by omega), List.append_assoc]
    · repeat' first
        | exact trivial | refine Weak.mk ?_ ?_ ?_ ?_ (Or.inl (Nat.le_of_ble_eq_true rfl)) | refine Weak.mk ?_ ?_ ?_ ?_ (Or.inr ⟨(by repeat' first | exact trivial | exact Nat.le_of_ble_eq_true rfl | refine And.intro ?_ ?_), (by repeat' first | exact trivial | exact Nat.le_of_ble_eq_true rfl | refine And.intro ?_ ?_)⟩) | refine Weak.mk ?_ ?_ ?_ ?_ ?_ | refine And.intro ?_ ?_ | with_reducible rfl | exact Nat.le_of_ble_eq_true rfl | refine fr1 ?_ | refine fr2 ?_ ?_ | refine AV.int_congr ?_ | refine AV.bool_congr ?_ | refine AV.str_congr ?_ | refine AV.list_congr ?_ | refine AV.bsl_congr ?_ ?_ | (apply rfl)
      exact hq
theorem itoa_least : Lib.itoa (-9223372036854775808) = [45, 57, 50, 50, 51, 51, 55, 50, 48, 51, 54, 56, 53, 52, 55, 55, 53, 56, 48, 56] := by
  rw [itoa_neg (by decide)]
  have h := fmt_of_isNum (s := [57, 50, 50, 51, 51, 55, 50, 48, 51, 54, 56, 53, 52, 55, 55, 53, 56, 48, 56]) (by decide +kernel)
  rw [show (- -9223372036854775808 : Int).toNat = valA 0 [57, 50, 50, 51, 51, 55, 50, 48, 51, 54, 56, 53, 52, 55, 55, 53, 56, 48, 56] by decide +kernel, h]
theorem sFormatInt.all (n : Int) (h0 : -9223372036854775808 ≤ n) (h1 : n ≤ 9223372036854775807) : sFormatInt.Ret [.val (.int .i64 n)] (.str (Lib.itoa n)) [] := by
  by_cases hn : 0 ≤ n
  · obtain ⟨m, rfl⟩ : ∃ m : Nat, n = m := ⟨n.toNat, by omega⟩
    rw [itoa_nat]
    exact sFormatInt.nat m (by omega)
  · by_cases hm : n = -9223372036854775808
    · subst hm
      rw [itoa_least]
      refine sFormatInt.ofS rfl rfl ?_
      repeat' first
        | contradiction | exact trivial
        | (conv => whnf
           first | refine Need.mk (fun h => h) ?_ | refine Need.mk rfl ?_ | refine Need.mk ⟨rfl, Nat.le_of_ble_eq_true rfl⟩ ?_ | refine Need.mk (Nat.le_of_ble_eq_true rfl) ?_ | refine Need.fin ?_ | refine Need.mk ?_ ?_ | refine Ix.strsF rfl ?_ | refine Ix.strs rfl ?_ ?_ | refine Cut.strs rfl ?_ ?_ | refine Ix.mapF (fun _ => rfl) ?_ | refine Ix.map (fun _ => rfl) ?_ ?_ | refine Cut.map (fun _ => rfl) ?_ ?_ | refine Fork.yes (by assumption) ?_ | refine Fork.no (by assumption) ?_ | refine Fork.decYes (by omega) ?_ | refine Fork.decNo (by omega) ?_ | refine Fork.dec (fun _ => ?_) (fun _ => ?_) | refine Fork.bne (fun _ => ?_) (fun _ => ?_) | refine Fork.beq (fun _ => ?_) (fun _ => ?_) | refine Fork.seq (fun _ => ?_) (fun _ => ?_) | refine Fork.sne (fun _ => ?_) (fun _ => ?_) | refine Fork.neg (fun _ => ?_) (fun _ => ?_) | refine Fork.mk (fun _ => ?_) (fun _ => ?_) | refine HAlt.mk ?_ ?_ | apply HJoin.mk3 | exact HEnd.mk rfl rfl rfl | refine HEnd.mk ?_ ?_ ?_ | refine Round.mk ?_ | refine NilQ.mk (fun b hb => ?_) | refine forceK_of ?_ | refine forceBx_of ?_ | refine unG_old ?_ | refine unG_gv ?_ | refine Lit.read rfl ?_ | refine LitO.own rfl ?_ | refine FinVal.keep ?_ | refine FinAgg.keep ?_ | refine Final.mk rfl rfl | refine Final.mk ?_ rfl | refine Final.mk ?_ ?_ | refine FinalT.mk ?_ ?_ | refine FinalI.mk ?_ | refine FinalC.allA ?_)
        | refine AV.bool_congr ?_ | refine AV.int_congr ?_ | refine AV.str_congr ?_ | refine AV.list_congr ?_ | with_reducible rfl | refine fr1 ?_ | refine fr2 ?_ ?_
    · have hc := sFormatInt.nat (-n).toNat (by omega)
      have he : (((-n).toNat : Nat) : Int) = -n := by omega
      rw [he] at hc
      have hc' : sFormatInt.Ret [.val (.int .i64 (IntKind.i64.wrap (-n)))] (.str (fmt (-n).toNat)) [] := by rw [wrap64 (x := -n) (by omega) (by omega)]; exact hc
      have hl := itoa_len h0 h1
      rw [itoa_neg (by omega)] at hl ⊢
      rw [List.length_cons] at hl
      refine sFormatInt.ofS rfl rfl ?_
      repeat' first
        | contradiction | exact trivial
        | (conv => whnf
           first | refine Need.mk (fun h => h) ?_ | refine Need.mk rfl ?_ | refine Need.mk ⟨rfl, Nat.le_of_ble_eq_true rfl⟩ ?_ | refine Need.mk (Nat.le_of_ble_eq_true rfl) ?_ | refine Need.fin ?_ | refine Need.mk ?_ ?_ | refine Ix.strsF rfl ?_ | refine Ix.strs rfl ?_ ?_ | refine Cut.strs rfl ?_ ?_ | refine Ix.mapF (fun _ => rfl) ?_ | refine Ix.map (fun _ => rfl) ?_ ?_ | refine Cut.map (fun _ => rfl) ?_ ?_ | refine Fork.yes (by assumption) ?_ | refine Fork.no (by assumption) ?_ | refine Fork.decYes (by omega) ?_ | refine Fork.decNo (by omega) ?_ | refine Fork.dec (fun _ => ?_) (fun _ => ?_) | refine Fork.bne (fun _ => ?_) (fun _ => ?_) | refine Fork.beq (fun _ => ?_) (fun _ => ?_) | refine Fork.seq (fun _ => ?_) (fun _ => ?_) | refine Fork.sne (fun _ => ?_) (fun _ => ?_) | refine Fork.neg (fun _ => ?_) (fun _ => ?_) | refine Fork.mk (fun _ => ?_) (fun _ => ?_) | refine HAlt.mk ?_ ?_ | apply HJoin.mk3 | exact HEnd.mk rfl rfl rfl | refine HEnd.mk ?_ ?_ ?_ | refine Round.mk ?_ | refine NilQ.mk (fun b hb => ?_) | refine forceK_of ?_ | refine forceBx_of ?_ | refine unG_old ?_ | refine unG_gv ?_ | refine Lit.read rfl ?_ | refine LitO.own rfl ?_ | refine FinVal.keep ?_ | refine FinAgg.keep ?_ | refine Final.mk rfl rfl | refine Final.mk ?_ rfl | refine Final.mk ?_ ?_ | refine FinalT.mk ?_ ?_ | refine FinalI.mk ?_ | refine FinalC.allA ?_ | refine ACall.scalA _ _ (hc') rfl ?_ | refine AQCall.mkA _ _ (fun hg => hc') rfl ?_ | refine AGCall.mkA _ _ (fun hg => hc') rfl ?_)
        | refine AV.bool_congr ?_ | refine AV.int_congr ?_ | refine AV.str_congr ?_ | refine AV.list_congr ?_ | with_reducible rfl | refine fr1 ?_ | refine fr2 ?_ ?_
      show 1 + _ ≤ 1099511627776
      omega
theorem pFormatInt.all (n : Int) (h0 : -9223372036854775808 ≤ n) (h1 : n ≤ 9223372036854775807) : pFormatInt.Ret [.val (.int .i64 n)] (.str (Lib.itoa n)) [] := by
  refine pFormatInt.ofS rfl rfl ?_
  repeat' first
    | contradiction | exact trivial
    | (conv => whnf
       first | refine Need.mk (fun h => h) ?_ | refine Need.mk rfl ?_ | refine Need.mk ⟨rfl, Nat.le_of_ble_eq_true rfl⟩ ?_ | refine Need.mk (Nat.le_of_ble_eq_true rfl) ?_ | refine Need.fin ?_ | refine Need.mk ?_ ?_ | refine Ix.strsF rfl ?_ | refine Ix.strs rfl ?_ ?_ | refine Cut.strs rfl ?_ ?_ | refine Ix.mapF (fun _ => rfl) ?_ | refine Ix.map (fun _ => rfl) ?_ ?_ | refine Cut.map (fun _ => rfl) ?_ ?_ | refine Fork.yes (by assumption) ?_ | refine Fork.no (by assumption) ?_ | refine Fork.decYes (by omega) ?_ | refine Fork.decNo (by omega) ?_ | refine Fork.dec (fun _ => ?_) (fun _ => ?_) | refine Fork.bne (fun _ => ?_) (fun _ => ?_) | refine Fork.beq (fun _ => ?_) (fun _ => ?_) | refine Fork.seq (fun _ => ?_) (fun _ => ?_) | refine Fork.sne (fun _ => ?_) (fun _ => ?_) | refine Fork.neg (fun _ => ?_) (fun _ => ?_) | refine Fork.mk (fun _ => ?_) (fun _ => ?_) | refine HAlt.mk ?_ ?_ | apply HJoin.mk3 | exact HEnd.mk rfl rfl rfl | refine HEnd.mk ?_ ?_ ?_ | refine Round.mk ?_ | refine NilQ.mk (fun b hb => ?_) | refine forceK_of ?_ | refine forceBx_of ?_ | refine unG_old ?_ | refine unG_gv ?_ | refine Lit.read rfl ?_ | refine LitO.own rfl ?_ | refine FinVal.keep ?_ | refine FinAgg.keep ?_ | refine Final.mk rfl rfl | refine Final.mk ?_ rfl | refine Final.mk ?_ ?_ | refine FinalT.mk ?_ ?_ | refine FinalI.mk ?_ | refine FinalC.allA ?_ | refine ACall.scalA _ _ (libItoa.ret _ ?_ ?_) rfl ?_ | refine AQCall.mkA _ _ (fun hg => libItoa.ret _ ?_ ?_) rfl ?_ | refine AGCall.mkA _ _ (fun hg => libItoa.ret _ ?_ ?_) rfl ?_)
    | refine AV.bool_congr ?_ | refine AV.int_congr ?_ | refine AV.str_congr ?_ | refine AV.list_congr ?_ | with_reducible rfl | refine fr1 ?_ | refine fr2 ?_ ?_
  · exact h0
  · exact h1
end Go.Proofs.YtakojclbmhphnaaDoor
namespace Go.Proofs.YtakojclbmhphnaaDoor
open Abs
end Go.Proofs.YtakojclbmhphnaaDoor
namespace Go.Proofs.YtakojclbmhphnaaDoor
open Abs
def digs : Nat → Nat → Str → Str
  | 0, _, a => a
  | n + 1, k, a => if k = 0 then a else digs n (k / 10) (UInt8.ofNat (48 + k % 10) :: a)
@[irreducible] def markF (k : Nat) : Str := if k = 0 then [109, 48] else 109 :: digs k k []
def markL (n k : Nat) : List Str := (List.range n).map fun i => markF (k + i)
@[simp] theorem length_markL (n k : Nat) : (markL n k).length = n := by simp [markL]
end Go.Proofs.YtakojclbmhphnaaDoor
namespace Go.Proofs.YtakojclbmhphnaaDoor
open Abs
end Go.Proofs.YtakojclbmhphnaaDoor
namespace Go.Proofs.YtakojclbmhphnaaDoor
open Abs
end Go.Proofs.YtakojclbmhphnaaDoor
namespace Go.Proofs.YtakojclbmhphnaaDoor
namespace Abs
mutual
/-- how many cells are marked: of a cell of an element, of its cells, of a slice's elements -/
def c1 : Tr → Nat
  | .v _ => 1
  | .s _ => 1
  | .l _ _ xs => cnLL xs
  | .a _ => 0
  | .p _ => 0
def cnC : List Tr → Nat
  | [] => 0
  | x :: xs => c1 x + cnC xs
def cnLL : List (List Tr) → Nat
  | [] => 0
  | x :: xs => cnC x + cnLL xs
end
mutual
/-- of a value: the cells in its slices -/
def cn : Tr → Nat
  | .l _ _ xs => cnLL xs
  | .a fs => cnA fs
  | .p fs => cnA fs
  | .v _ => 0
  | .s _ => 0
def cnA : List Tr → Nat
  | [] => 0
  | x :: xs => cn x + cnA xs
end
mutual
def m1 : Tr → Nat → Tr
  | .v _, k => .v (.int .i64 k)
  | .s _, k => .s (markF k)
  | .l t sz xs, k => .l t sz (mkLL xs k)
  | .a fs, _ => .a fs
  | .p fs, _ => .p fs
def mkC : List Tr → Nat → List Tr
  | [], _ => []
  | x :: xs, k => m1 x k :: mkC xs (k + c1 x)
def mkLL : List (List Tr) → Nat → List (List Tr)
  | [], _ => []
  | x :: xs, k => mkC x k :: mkLL xs (k + cnC x)
end
mutual
def mk : Tr → Nat → Tr
  | .l t sz xs, k => .l t sz (mkLL xs k)
  | .a fs, k => .a (mkA fs k)
  | .p fs, k => .p (mkA fs k)
  | .v x, _ => .v x
  | .s x, _ => .s x
def mkA : List Tr → Nat → List Tr
  | [], _ => []
  | x :: xs, k => mk x k :: mkA xs (k + cn x)
end
theorem Sees0.cut {xs : List AV} {ys : List Tr} (h : xs = oldL ys) : Sees0 (.agg xs) (.agg (oldL ys)) := by subst h; exact Sees0.oldagg ys
def CnB {α : Type} (T : Ty α) (w : Nat) : Prop := ∀ a, cnC (T.q a) ≤ w * (1 + T.size a)
theorem CnB.str : CnB Ty.str 1 := fun a => by show 1 + 0 ≤ 1 * (1 + _); omega
theorem CnB.int : CnB Ty.int 1 := fun a => by show 1 + 0 ≤ 1 * (1 + _); omega
theorem CnB.bool : CnB Ty.bool 1 := fun a => by show 1 + 0 ≤ 1 * (1 + _); omega
theorem CnB.rows {α : Type} {T : Ty α} {w : Nat} (h : CnB T w) : ∀ l : List α, cnLL (l.map T.q) ≤ w * (l.length + listSize T l)
  | [] => Nat.zero_le _
  | a :: l => by
    have h1 := h.rows l
    have h2 := h a
    rw [List.map_cons, cnLL, List.length_cons, listSize]
    refine Nat.le_trans (Nat.add_le_add h2 h1) ?_
    rw [← Nat.mul_add]
    exact Nat.mul_le_mul_left _ (by omega)
theorem CnB.cellsL {α : Type} {T : Ty α} {w : Nat} (h : CnB T w) (t sz : Nat) (l : List α) : cnC [.l t sz (l.map T.q)] ≤ w * (1 + (l.length + listSize T l)) := by
  show cnLL (l.map T.q) + 0 ≤ _
  exact Nat.le_trans (h.rows l) (Nat.mul_le_mul_left _ (by omega))
theorem CnB.list {α : Type} {T : Ty α} {w : Nat} (h : CnB T w) (t : Nat) : CnB (Ty.list t T) w := fun l => h.cellsL t T.sz l
theorem CnB.plain {α : Type} {T : Ty α} {w : Nat} (h : CnB T w) (t : Nat) (h1 h2) : CnB (Ty.plain t T h1 h2) w := fun l => h.cellsL t T.sz l
theorem CnB.l {α : Type} {T : Ty α} {w : Nat} (h : CnB T w) (t sz : Nat) (l : List α) : cn (.l t sz (l.map T.q)) ≤ w * (l.length + listSize T l) := h.rows l
end Abs
end Go.Proofs.YtakojclbmhphnaaDoor
namespace Go.Proofs.YtakojclbmhphnaaDoor
open Abs
end Go.Proofs.YtakojclbmhphnaaDoor
namespace Go.Proofs.YtakojclbmhphnaaDoor
namespace Abs
theorem FinalC.all {Φ : AV → List ABox → Fr → Prop} {r : AV} {b : List ABox} {f : Fr} (h : Lends b b) (hk : Φ r b f) : FinalC Φ r b f := ⟨b, h, hk⟩
theorem FinalC.allA {Φ : AV → List ABox → Fr → Prop} {r : AV} {b : List ABox} {f : Fr} (hk : Φ r b f) (h : Lends b b := by repeat' first | exact Lends.nil | refine Lends.map _ ?_ | refine Lends.lend _ _ (by first | exact hx.1 | exact hy.1 | exact noTk_old _ | (intro c hc; rw [List.mem_singleton.1 hc]; rfl) | (intro c hc; cases hc; done)) ?_) : FinalC Φ r b f := ⟨b, h, hk⟩
theorem Lent.weak {mo : Bool} {P : Program} {f : Nat} {b0 : List ABox} {args : List AV} {Φ : AV → List ABox → Fr → Prop} (h : Lent true P f b0 args Φ) : Lent mo P f b0 args Φ := by
  rw [Lent_eq] at *
  exact ⟨h.1, fun w F vs box0 q a b c d e g => (h.2 w F vs box0 q a b c d e g).mono (by rintro en w' ⟨v, F', box1, tok, frs, r, b1, h1, h2, h3, h4⟩; exact ⟨v, F', box1, tok, frs, r, b1, h1, h2, h3.weak, h4⟩)⟩
section
variable {mo : Bool} {P : Program}
end
end Abs
open Abs
end Go.Proofs.YtakojclbmhphnaaDoor
namespace Go.Proofs.YtakojclbmhphnaaDoor
open Abs
theorem parseF_no {x : Str} (h : numF x = false) : parseF x = (0, false) := by
  unfold parseF; rw [if_neg (by simp [h])]
theorem parseF_yes {x : Str} (h : numF x = true) : parseF x = (↑(valA 0 x), true) := by
  unfold parseF; rw [if_pos h]
theorem digs_no {x : Str} {i : Nat} (hi : i < x.length) (h : dig (x.getD i 0) = false) : numF x = false := by
  cases hn : numF x with
  | false => rfl
  | true =>
    exfalso
    simp only [numF, Bool.and_eq_true] at hn
    have := List.all_eq_true.1 (isNum_digits hn.1) (x.getD i 0) (by simp [List.getD, hi])
    rw [h] at this; cases this
theorem digs_succ {x : Str} {i : Nat} (hi : i < x.length) (h : (x.take i).all dig = true) (hc : dig (x.getD i 0) = true) : (x.take (i + 1)).all dig = true := by
  rw [take_succ' 0 hi, List.all_append, h]; simpa using hc
theorem val_succ {x : Str} {i : Nat} (hi : i < x.length) : valA 0 (x.take (i + 1)) = 10 * valA 0 (x.take i) + ((x.getD i 0).toNat - 48) := by
  rw [take_succ' 0 hi, valA_snoc]
theorem valA_le4 {x : Str} {i : Nat} (h : (x.take i).all dig = true) (hx : x.length ≤ 4) : valA 0 (x.take i) ≤ 9999 :=
  valA_lt4 h (by rw [List.length_take]; omega)
theorem wrap_val32 {v : Nat} {c : UInt8} (hv : v ≤ 9999) (hc : dig c = true) : IntKind.i64.wrap (IntKind.i64.wrap (10 * (v : Int)) + IntKind.i64.wrap (IntKind.i32.wrap ((c.toNat : Int) - 48))) = ((10 * v + (c.toNat - 48) : Nat) : Int) := by
  have h := dig_range hc
  rw [Go.IntWalk.i32_in _ ⟨by omega, by omega⟩, wrap64 (x := 10 * (v : Int)) (by omega) (by omega), wrap64 (x := (c.toNat : Int) - 48) (by omega) (by omega), wrap64 (by omega) (by omega)]
  omega
/-- no needless nought in front -/
def plainHead (x : Str) : Bool := !(x == [] || (decide (1 < (x.length : Int)) && ((x.getD 0 0).toNat : Int) == 48))
theorem plainHead_no {x : Str} (h : plainHead x = false) : numF x = false := by
  match x, h with
  | [], _ => rfl
  | [c], h => simp [plainHead] at h
  | c :: d :: x, h =>
    have : c = 48 := by
      have h1 : c.toNat = 48 := by simp [plainHead] at h; omega
      rw [← UInt8.ofNat_toNat (x := c), h1]; rfl
    subst this
    simp [numF, isNum]
theorem isNum_of {x : Str} (h : plainHead x = true) (hd : x.all dig = true) : isNum x = true := by
  match x, h, hd with
  | [c], _, hd => simpa [isNum] using hd
  | c :: d :: x, h, hd =>
    simp only [isNum, hd, Bool.true_and, bne_iff_ne, ne_eq]
    rintro rfl
    simp [plainHead] at h; omega
theorem dec_digit {x : Str} {i : Nat} (hi : i < x.length) (h : digit (decodeS x i).1 = true) : dig (x.getD i 0) = true ∧ decodeS x i = ((x.getD i 0).toNat, 1) := by
  rcases dec_cases x i hi with ⟨_, e⟩ | ⟨_, e⟩
  · rw [e] at h; exact ⟨h, e⟩
  · simp [digit] at h; omega
theorem dec_digit_no {x : Str} {i : Nat} (hi : i < x.length) (h : digit (decodeS x i).1 = false) : dig (x.getD i 0) = false := by
  rcases dec_cases x i hi with ⟨_, e⟩ | ⟨e, _⟩
  · rw [e] at h; exact h
  · simp only [dig, digit, Bool.and_eq_false_iff, decide_eq_false_iff_not]; omega
theorem pParseInt.ret (x : Str) (hx : x.length ≤ 1048576) : pParseInt.Ret [.str x] (.tup [.val (.int .i64 (parseF x).1), .val (.bool (parseF x).2)]) [] := by
  refine pParseInt.ofS rfl rfl ?_
  repeat' first
    | (conv => whnf
       first | refine Need.mk (fun h => h) ?_ | refine Need.mk rfl ?_ | refine Need.fin ?_ | refine Fork.mk (fun _ => ?_) (fun _ => ?_) | refine LitO.own rfl ?_ | refine FinVal.keep ?_ | refine Final.mk ?_ rfl)
  · rename_i h
    have : plainHead x = false := by unfold plainHead; rw [Bool.not_eq_false']; exact h
    rw [parseF_no (plainHead_no this)]
  rename_i h
  have hp : plainHead x = true := by unfold plainHead; rw [Bool.not_eq_true']; exact h
  clear h
  skip
  refine ALoop.mk Nat (fun i => ⟨[(0, .str x), (4, .val (.int .i64 (valA 0 (x.take i)))), (20, .bptr 0 0)], [.iter x i], []⟩) (fun i => i ≤ x.length ∧ (x.take i).all dig = true ∧ valA 0 (x.take i) ≤ 9999) (fun i => x.length - i) ⟨0, ⟨Nat.zero_le _, rfl, by simp [valA]⟩, ?_⟩ (fun i hi => ?_)
  · repeat' first
      | exact trivial | refine Weak.mk ?_ ?_ ?_ ?_ (Or.inl (Nat.le_of_ble_eq_true rfl)) | refine And.intro ?_ ?_ | with_reducible rfl | exact Nat.le_of_ble_eq_true rfl | refine AV.int_congr ?_ | refine AV.str_congr ?_ | (apply rfl)
  repeat' first
    | contradiction
    | (conv => whnf
       first | refine Need.mk rfl ?_ | refine Fork.dec (fun _ => ?_) (fun _ => ?_) | refine Fork.neg (fun _ => ?_) (fun _ => ?_) | refine Fork.mk (fun _ => ?_) (fun _ => ?_) | refine Round.mk ?_ | refine LitO.own rfl ?_ | refine FinVal.keep ?_ | refine Final.mk ?_ rfl | refine ACall.scalA _ _ (isDigit.ret _) rfl ?_)
  · rename_i h0 _ h
    rw [parseF_no (digs_no h0 (dec_digit_no h0 h))]
  · rename_i h0 _ h h9
    obtain ⟨hc, e⟩ := dec_digit h0 h
    rw [e, wrap_val32 hi.2.2 hc, ← val_succ h0] at h9
    have hd := digs_succ h0 hi.2.1 hc
    have hn : numF x = false := by
      cases hn : numF x with
      | false => rfl
      | true =>
        exfalso
        simp only [numF, Bool.and_eq_true, decide_eq_true_eq] at hn
        have := valA_le4 hd hn.2
        omega
    rw [parseF_no hn]
  · rename_i h0 _ h h9
    obtain ⟨hc, e⟩ := dec_digit h0 h
    rw [e, wrap_val32 hi.2.2 hc, ← val_succ h0] at h9
    refine ⟨i + 1, ⟨h0, digs_succ h0 hi.2.1 hc, by omega⟩, ?_, by omega⟩
    repeat' first
      | exact trivial | refine Weak.mk ?_ ?_ ?_ ?_ (Or.inl (Nat.le_of_ble_eq_true rfl)) | refine And.intro ?_ ?_ | with_reducible rfl | exact Nat.le_of_ble_eq_true rfl | refine AV.int_congr ?_ | refine AV.str_congr ?_ | (apply rfl)
    · rw [e, wrap_val32 hi.2.2 hc, ← val_succ h0]
    · simp [e]
  · rename_i h0 _
    rw [List.take_of_length_le (by omega)] at hi ⊢
    have h1 := isNum_of hp hi.2.1
    have hn : numF x = true := by simp [numF, h1, isNum_len h1 hi.2.2]
    rw [parseF_yes hn]
end Go.Proofs.YtakojclbmhphnaaDoor
namespace Go.Proofs.YtakojclbmhphnaaDoor
open Abs
def nameF (x : Str) : Bool := atomF x && letter (x.getD 0 0).toNat
def varF (x : Str) : Bool := decide (1 < (x.length : Int)) && ((x.getD 0 0).toNat : Int) == 63 && atomF (x.drop 1)
theorem atomF_pos {x : Str} (h : atomF x = true) : 1 ≤ x.length := by
  simp only [atomF, Bool.and_eq_true, decide_eq_true_eq] at h; omega
theorem pIsName.ret (x : Str) (hx : x.length ≤ 1048576) : pIsName.Ret [.str x] (.val (.bool (nameF x))) [] := by
  refine pIsName.of rfl ?_
  repeat' first
    | (conv => whnf
       first | refine Need.mk (fun h => h) ?_ | refine Need.mk ?_ ?_ | refine FinVal.keep ?_ | refine Final.mk ?_ rfl | refine ACall.scalA _ _ (pIsAtom.ret _ ?_) rfl ?_ | refine AGCall.mkA _ _ (fun hg => isLetter.ret _) rfl ?_)
    | refine AV.bool_congr ?_
  · exact hx
  · intro h; have := atomF_pos h; omega
  · simp only [nameF, wrap32_byte]; rfl
end Go.Proofs.YtakojclbmhphnaaDoor
namespace Go.Proofs.YtakojclbmhphnaaDoor
open Abs
attribute [local irreducible] parseF
@[irreducible] def scmp (a b : Str) : Int := if Op.bytesLess a b then -1 else if a = b then 0 else 1
@[irreducible] def icmp (a b : Int) : Int := if a < b then -1 else if a = b then 0 else 1
def cmpA (a b : Str) : Int :=
  if (parseF a).2 then (if (parseF b).2 then icmp (parseF a).1 (parseF b).1 else -1) else (if (parseF b).2 then 1 else scmp a b)
theorem isNaNInt.ret (a : Int) : isNaNInt.Ret [.val (.int .i64 a)] (.val (.bool false)) [] := by
  refine isNaNInt.of rfl ?_
  repeat' first
    | (conv => whnf
       first | refine Need.mk rfl ?_ | refine LitO.own rfl ?_ | refine FinVal.keep ?_ | refine Final.mk ?_ rfl)
    | refine AV.bool_congr ?_
  simp
theorem isNaNString.ret (a : Str) : isNaNString.Ret [.str a] (.val (.bool false)) [] := by
  refine isNaNString.of rfl ?_
  repeat' first
    | (conv => whnf
       first | refine FinVal.keep ?_ | refine Final.mk ?_ rfl)
    | refine AV.bool_congr ?_
  simp
theorem cmpInt.ret (a b : Int) : cmpInt.Ret [.val (.int .i64 a), .val (.int .i64 b)] (.val (.int .i64 (icmp a b))) [] := by
  refine cmpInt.of rfl ?_
  repeat' first
    | contradiction
    | (conv => whnf
       first | refine Need.mk rfl ?_ | refine Fork.no (by assumption) ?_ | refine Fork.dec (fun _ => ?_) (fun _ => ?_) | refine Fork.mk (fun _ => ?_) (fun _ => ?_) | refine LitO.own rfl ?_ | refine FinVal.keep ?_ | refine Final.mk ?_ rfl | refine ACall.scalA _ _ (isNaNInt.ret _) rfl ?_)
    | refine AV.int_congr ?_
  · rename_i h; simp [icmp, h]
  · rename_i h1 h; simp only [icmp]; split <;> (try split) <;> omega
  · rename_i h1 h; simp only [icmp]; split <;> (try split) <;> omega
theorem cmpString.ret (a b : Str) : cmpString.Ret [.str a, .str b] (.val (.int .i64 (scmp a b))) [] := by
  refine cmpString.of rfl ?_
  repeat' first
    | contradiction
    | (conv => whnf
       first | refine Fork.no (by assumption) ?_ | refine Fork.neg (fun _ => ?_) (fun _ => ?_) | refine Fork.mk (fun _ => ?_) (fun _ => ?_) | refine FinVal.keep ?_ | refine Final.mk ?_ rfl | refine ACall.scalA _ _ (isNaNString.ret _) rfl ?_)
    | refine AV.int_congr ?_
  · rename_i h; simp [scmp, h]
  · rename_i h1 h; simp only [Bool.or_eq_false_iff, beq_eq_false_iff_ne] at h; simp [scmp, h1, h.2]
  · rename_i h1 h; simp only [h1, Bool.false_or, beq_iff_eq] at h; subst h; simp [scmp, bl_irrefl]
theorem pCompareAtoms.ret (a b : Str) (ha : a.length ≤ 1048576) (hb : b.length ≤ 1048576) : pCompareAtoms.Ret [.str a, .str b] (.val (.int .i64 (cmpA a b))) [] := by
  refine pCompareAtoms.of rfl ?_
  repeat' first
    | (conv => whnf
       first | refine Need.mk (fun h => h) ?_ | refine Fork.mk (fun _ => ?_) (fun _ => ?_) | refine FinVal.keep ?_ | refine Final.mk ?_ rfl | refine ACall.scalA _ _ (pParseInt.ret _ ?_) rfl ?_ | refine ACall.scalA _ _ (cmpInt.ret _ _) rfl ?_ | refine ACall.scalA _ _ (cmpString.ret _ _) rfl ?_)
    | refine AV.int_congr ?_
  · exact ha
  · exact hb
  all_goals simp_all [cmpA]
end Go.Proofs.YtakojclbmhphnaaDoor
namespace Go.Proofs.YtakojclbmhphnaaDoor
open Abs
theorem scmp_zero {a b : Str} : scmp a b = 0 ↔ a = b := by
  unfold scmp
  constructor
  · intro h
    split at h
    · omega
    · split at h
      · assumption
      · omega
  · rintro rfl; simp [bl_irrefl]
end Go.Proofs.YtakojclbmhphnaaDoor
namespace Go.Proofs.YtakojclbmhphnaaDoor
open Abs
structure STO {α : Type} (lt : α → α → Bool) : Prop where
  irrefl : ∀ x, lt x x = false
  trans : ∀ x y z, lt x y = true → lt y z = true → lt x z = true
  tri : ∀ x y, lt x y = false → lt y x = false → x = y
section
variable {α : Type} {lt : α → α → Bool}
theorem STO.asymm (h : STO lt) {x y : α} (hxy : lt x y = true) : lt y x = false := by
  cases hyx : lt y x with
  | false => rfl
  | true => have := h.trans x y x hxy hyx; rw [h.irrefl] at this; cases this
/-- put in at its place, unless it is there -/
def ins (lt : α → α → Bool) (s : α) : Bool → List α → List α
  | d, [] => if d then [] else [s]
  | true, x :: l => x :: ins lt s true l
  | false, x :: l => if lt x s then x :: ins lt s false l else if lt s x then s :: x :: ins lt s true l else x :: ins lt s true l
variable [Inhabited α] [DecidableEq α]
end
def blt (a b : Str) : Bool := Op.bytesLess a b
theorem blt_eq : ∀ a b : Str, blt a b = decide (a < b)
  | _, [] => by simp [blt, Op.bytesLess]
  | [], _ :: _ => by simp [blt, Op.bytesLess]
  | a :: x, b :: y => by
    have ih := blt_eq x y
    rw [blt] at ih ⊢
    rw [Op.bytesLess, ih]
    rw [Bool.eq_iff_iff]
    simp only [Bool.or_eq_true, Bool.and_eq_true, decide_eq_true_eq, beq_iff_eq]
    rw [List.cons_lt_cons_iff]
theorem blt_sto : STO blt where
  irrefl x := by rw [blt_eq]; simp [List.lt_irrefl]
  trans x y z h1 h2 := by rw [blt_eq, decide_eq_true_eq] at *; exact List.lt_trans h1 h2
  tri x y h1 h2 := by
    rw [blt_eq, decide_eq_false_iff_not] at *
    exact List.le_antisymm (List.not_lt.1 h2) (List.not_lt.1 h1)
structure CMP {α : Type} (c : α → α → Int) : Prop where
  zero : ∀ x y, c x y = 0 ↔ x = y
  anti : ∀ x y, c x y < 0 ↔ 0 < c y x
  trans : ∀ x y z, c x y < 0 → c y z < 0 → c x z < 0
theorem scmp_cmp : CMP scmp where
  zero _ _ := scmp_zero
  anti x y := by
    have h1 := scmp_zero (a := x) (b := y)
    unfold scmp at h1 ⊢
    have b1 := @STO.asymm _ _ blt_sto x y
    have b2 := blt_sto.tri x y
    unfold blt at b1 b2
    by_cases e : x = y
    · subst e; simp [bl_irrefl]
    · have e' : ¬ y = x := fun h => e h.symm
      cases hx : Op.bytesLess x y <;> cases hy : Op.bytesLess y x <;> simp [e, e']
      · exact e (b2 hx hy)
      · have := b1 hx; rw [this] at hy; cases hy
  trans x y z h1 h2 := by
    have b := blt_sto.trans x y z
    unfold blt at b
    unfold scmp at *
    split at h1
    · rename_i hx
      split at h2
      · rename_i hy; rw [if_pos (b hx hy)]; omega
      · split at h2 <;> omega
    · split at h1 <;> omega
theorem cmpA_cmp : CMP cmpA where
  zero x y := by
    unfold cmpA
    by_cases hx : numF x = true <;> by_cases hy : numF y = true
    · rw [parseF_yes hx, parseF_yes hy]
      simp only [if_true]
      unfold icmp
      have ex : fmt (valA 0 x) = x := fmt_of_isNum (by unfold numF at hx; simp at hx; exact hx.1)
      have ey : fmt (valA 0 y) = y := fmt_of_isNum (by unfold numF at hy; simp at hy; exact hy.1)
      constructor
      · intro h
        split at h
        · omega
        · split at h
          · rename_i h2; rw [← ex, ← ey, show valA 0 x = valA 0 y by omega]
          · omega
      · rintro rfl; simp
    · rw [parseF_yes hx, parseF_no (by simpa using hy)]
      simp only [if_true]
      refine ⟨fun h => by simp at h, fun h => ?_⟩
      subst h; exact absurd hx hy
    · rw [parseF_no (by simpa using hx), parseF_yes hy]
      simp only [if_true]
      refine ⟨fun h => by simp at h, fun h => ?_⟩
      subst h; exact absurd hy hx
    · rw [parseF_no (by simpa using hx), parseF_no (by simpa using hy)]
      exact scmp_zero
  anti x y := by
    unfold cmpA
    have hs := scmp_cmp.anti x y
    cases hx : (parseF x).2 <;> cases hy : (parseF y).2 <;> simp only [if_true, Bool.false_eq_true, if_false]
    · exact hs
    · omega
    · omega
    · unfold icmp; split <;> split <;> (try split) <;> omega
  trans x y z := by
    unfold cmpA
    have hs := scmp_cmp.trans x y z
    cases hx : (parseF x).2 <;> cases hy : (parseF y).2 <;> cases hz : (parseF z).2 <;> simp only [if_true, Bool.false_eq_true, if_false]
    · exact hs
    all_goals (try (intro h1 h2; omega))
    intro h1 h2
    unfold icmp at *
    split at h1
    · split at h2
      · rw [if_pos (by omega)]; omega
      · split at h2 <;> omega
    · split at h1 <;> omega
end Go.Proofs.YtakojclbmhphnaaDoor
namespace Go.Proofs.YtakojclbmhphnaaDoor
open Abs
theorem fmt_dig (n : Nat) : (fmt n).all dig = true ∧ valA 0 (fmt n) = n := by
  induction n using Nat.strongRecOn with
  | _ n ih =>
    have hd : ∀ k : Nat, k < 10 → dig (UInt8.ofNat (48 + k)) = true ∧ (UInt8.ofNat (48 + k)).toNat - 48 = k := fun k hk => by
      have e : (UInt8.ofNat (48 + k)).toNat = 48 + k := by rw [UInt8.toNat_ofNat']; omega
      refine ⟨?_, by omega⟩
      unfold dig digit
      rw [e, decide_eq_true (by omega), decide_eq_true (by omega)]; rfl
    rcases Nat.lt_or_ge n 10 with h | h
    · rw [fmt_small h]
      obtain ⟨h1, h2⟩ := hd n h
      refine ⟨by rw [List.all_cons, h1]; rfl, ?_⟩
      simp only [valA, List.foldl_cons, List.foldl_nil, dval]
      omega
    · rw [fmt_big h]
      obtain ⟨h1, h2⟩ := hd (n % 10) (Nat.mod_lt _ (by omega))
      obtain ⟨i1, i2⟩ := ih (n / 10) (by omega)
      refine ⟨by rw [List.all_append, i1, List.all_cons, h1]; rfl, ?_⟩
      rw [valA_snoc, i2, h2]; omega
theorem parse_itoa (n : Int) : parseF (Lib.itoa n) = if 0 ≤ n ∧ n ≤ 9999 then (n, true) else (0, false) := by
  rcases Int.lt_or_le n 0 with h | h
  · rw [if_neg (by omega), itoa_neg h]
    unfold parseF numF
    have : isNum (45 :: fmt (-n).toNat) = false := by
      cases hn : isNum (45 :: fmt (-n).toNat) with
      | false => rfl
      | true =>
        have := isNum_digits hn
        rw [List.all_cons, Bool.and_eq_true] at this
        exact absurd this.1 (by decide)
    rw [this]; rfl
  · obtain ⟨m, rfl⟩ := Int.eq_ofNat_of_zero_le h
    rw [itoa_nat]
    obtain ⟨h1, h2⟩ := fmt_dig m
    have h3 : isNum (fmt m) = true := isNum_of_fmt h1 (by rw [h2])
    unfold parseF numF
    rw [h3, h2]
    by_cases h4 : m ≤ 9999
    · rw [decide_eq_true (fmt_len4 h4), if_pos (by rfl), if_pos (by omega)]
    · have : ¬ (fmt m).length ≤ 4 := fun hl => h4 (by rw [← h2]; exact valA_lt4 h1 hl)
      rw [decide_eq_false this, if_neg (by simp), if_neg (by omega)]
theorem name_number (s : Str) : (nameF s && (parseF s).2) = false := by
  cases hn : nameF s with
  | false => rfl
  | true =>
    rw [Bool.true_and]
    unfold nameF at hn
    rw [Bool.and_eq_true] at hn
    cases hp : (parseF s).2 with
    | false => rfl
    | true =>
      unfold parseF at hp
      split at hp
      · rename_i h
        unfold numF at h
        rw [Bool.and_eq_true] at h
        have hd := isNum_digits h.1
        cases s with
        | nil => cases h.1
        | cons c s =>
          rw [List.all_cons, Bool.and_eq_true] at hd
          have h2 := dig_range hd.1
          have h3 := hn.2
          unfold letter at h3
          rw [Bool.and_eq_true, decide_eq_true_eq] at h3
          simp only [List.getD_cons_zero] at h3
          omega
      · cases hp
theorem cmpA_law (a b : Str) : cmpA a b = -cmpA b a ∧ (cmpA a b == 0) = decide (a = b) := by
  refine ⟨?_, ?_⟩
  · have h1 : ∀ x y : Str, cmpA x y = -1 ∨ cmpA x y = 0 ∨ cmpA x y = 1 := fun x y => by
      unfold cmpA icmp scmp
      repeat' split
      all_goals simp
    have h2 := cmpA_cmp.anti a b
    have h3 := cmpA_cmp.anti b a
    have h4 := h1 a b
    have h5 := h1 b a
    omega
  have h := cmpA_cmp.zero a b
  by_cases e : a = b
  · subst e; rw [h.2 rfl]; simp
  · have h1 : cmpA a b ≠ 0 := fun h' => e (h.1 h')
    simp [e, h1]
end Go.Proofs.YtakojclbmhphnaaDoor
namespace Go.Proofs.YtakojclbmhphnaaDoor
open Abs
def dNew.code : ACode := (.seq (.region false [s 2 (.mv (.const (.pointer none)))]) (.seq (.region false [s 5 (.mv (t 0)), s 6 (.len false (t 5)), s 7 (.bin .mul (.const (.int .i64 3)) (t 6)), s 8 (.bin .add (.const (.int .i64 851207)) (t 7)), s 3 (.mv (t 8))]) (.seq (.seq (.region false [s 4 (.mv (.const (.int .i64 0)))]) (.block 0 (.loop (.seq (.seq (.region false [s 9 (.mv (t 4)), s 10 (.mv (t 0)), s 11 (.len false (t 10)), s 12 (.bin .lss (t 9) (t 11)), s 13 (.mv (t 12)), g 13 true 14 (.mv (t 4)), g 13 true 15 (.bin .lss (t 14) (.const (.int .i64 4000))), s 16 (.and (t 13) (t 15))]) (.cond (t 16) .skip (.exit 0))) (.seq (.block 1 (.region false [s 19 (.mv (t 3)), s 20 (.bin .mul (t 19) (.const (.int .i64 167))), s 21 (.mv (t 0)), s 22 (.mv (t 4)), s 23 (.iadr 1 (t 21) (t 22)), s 24 (.load false 1 (t 23)), s 25 (.conv .i64 (t 24)), s 26 (.bin .add (t 20) (t 25)), s 27 (.bin .add (t 26) (.const (.int .i64 29))), s 28 (.bin .and (t 27) (.const (.int .i64 1073741823))), s 3 (.mv (t 28))])) (.region false [s 17 (.mv (t 4)), s 18 (.bin .add (t 17) (.const (.int .i64 1))), s 4 (.mv (t 18))])))))) (.seq (.region false [s 29 (.mv (t 0)), s 30 (.mv (t 3)), s 31 (.build [(.slice none 0 0), (.int .i64 (.ofNat 0)), (.int .i64 (.ofNat 0))] [(0, 1), (2, 1)] [(t 29), (t 30)]), s 32 (.box (t 31)), s 2 (.mv (t 32))]) .ret))))
def dNew.keep : List Nat := [0, 2, 3, 4]
def dNew.res : List RRes := [.tmp 2]
theorem dNew.ofI {mo : Bool} {b0 : List ABox} {f0 : Fr} {args : List AV} {Φ : AV → List ABox → Fr → Prop} (hn : Nat.ble args.length Tryd.f24.ntmps = true) (h : aCode (Kn mo Tryd.prog) dNew.keep b0.length dNew.code (doneI dNew.res Φ) ⟨argEnv 0 args, b0, f0⟩) : Abs.Ins mo Tryd.prog 24 b0 f0 args Φ :=
  Abs.Ins.of_ir Tryd.func24 rfl (by kernel_rfl) (Nat.le_of_ble_eq_true hn) (by kernel_rfl) (by kernel_rfl) h
def dByte.code : ACode := (.seq (.region false [s 2 (.mv (.const (.int .i64 0)))]) (.seq (.region false [s 4 (.mv (t 0)), s 5 (.mv (t 0)), s 6 (.fadr 0 (t 5)), s 7 (.fadr 2 (t 6)), s 8 (.load false 1 (t 7)), s 9 (.bin .mul (t 8) (.const (.int .i64 6364136223846793005))), s 10 (.bin .add (t 9) (.const (.int .i64 1442695040888963407))), s 11 (.fadr 0 (t 4)), s 12 (.fadr 2 (t 11)), ⟨none, none, (.store 1 (t 12) (t 10))⟩]) (.seq (.region true [s 13 (.mv (t 0)), s 14 (.fadr 0 (t 13)), s 15 (.fadr 2 (t 14)), s 16 (.load false 1 (t 15)), s 17 (.bin .shr (t 16) (.const (.int .u64 35))), s 18 (.mv (t 0)), s 19 (.fadr 0 (t 18)), s 20 (.fadr 2 (t 19)), s 21 (.load false 1 (t 20)), s 22 (.bin .shr (t 21) (.const (.int .u64 45))), s 23 (.bin .xor (t 17) (t 22)), s 24 (.bin .and (t 23) (.const (.int .i64 255))), s 3 (.mv (t 24))]) (.seq (.seq (.region true [s 25 (.mv (t 0)), s 26 (.fadr 0 (t 25)), s 27 (.fadr 1 (t 26)), s 28 (.load false 1 (t 27)), s 29 (.mv (t 0)), s 30 (.fadr 0 (t 29)), s 31 (.fadr 0 (t 30)), s 32 (.load false 1 (t 31)), s 33 (.len false (t 32)), s 34 (.bin .lss (t 28) (t 33))]) (.cond (t 34) (.seq (.region true [s 35 (.mv (t 3)), s 36 (.mv (t 0)), s 37 (.fadr 0 (t 36)), s 38 (.fadr 0 (t 37)), s 39 (.load false 1 (t 38)), s 40 (.mv (t 0)), s 41 (.fadr 0 (t 40)), s 42 (.fadr 1 (t 41)), s 43 (.load false 1 (t 42)), s 44 (.iadr 1 (t 39) (t 43)), s 45 (.load false 1 (t 44)), s 46 (.conv .i64 (t 45)), s 47 (.bin .add (t 35) (t 46)), s 48 (.bin .and (t 47) (.const (.int .i64 255))), s 3 (.mv (t 48))]) (.region false [s 49 (.mv (t 0)), s 50 (.mv (t 0)), s 51 (.fadr 0 (t 50)), s 52 (.fadr 1 (t 51)), s 53 (.load false 1 (t 52)), s 54 (.bin .add (t 53) (.const (.int .i64 1))), s 55 (.fadr 0 (t 49)), s 56 (.fadr 1 (t 55)), ⟨none, none, (.store 1 (t 56) (t 54))⟩])) .skip)) (.seq (.region false [s 57 (.mv (t 3)), s 2 (.mv (t 57))]) .ret)))))
def dByte.keep : List Nat := [0, 2, 3]
def dByte.res : List RRes := [.tmp 2]
theorem dByte.ofL {mo : Bool} {b0 : List ABox} {args : List AV} {Φ : AV → List ABox → Fr → Prop} (hd : noDead b0 = true) (hn : Nat.ble args.length Tryd.f38.ntmps = true) (h : aCode (Kn mo Tryd.prog) dByte.keep b0.length dByte.code (doneL dByte.res Φ) ⟨argEnv 0 args, b0, []⟩) : Abs.Lent mo Tryd.prog 38 b0 args Φ :=
  Abs.Lent.of_ir hd Tryd.func38 rfl (by kernel_rfl) (Nat.le_of_ble_eq_true hn) (by kernel_rfl) (by kernel_rfl) h
def dBelow.code : ACode := (.seq (.region false [s 4 (.mv (.const (.int .i64 0)))]) (.seq (.seq (.region false [s 8 (.mv (t 1)), s 9 (.bin .leq (t 8) (.const (.int .i64 0)))]) (.cond (t 9) (.seq (.region false [s 4 (.mv (.const (.int .i64 0)))]) .ret) .skip)) (.seq (.seq (.region false [s 10 (.mv (t 1)), s 11 (.bin .leq (t 10) (.const (.int .i64 256)))]) (.cond (t 11) (.seq (.region false [s 12 (.mv (t 0)), s 13 (.call 38 [(t 12)]), s 14 (.mv (t 1)), s 15 (.bin .rem (t 13) (t 14)), s 4 (.mv (t 15))]) .ret) .skip)) (.seq (.region false [s 16 (.mv (t 0)), s 17 (.call 38 [(t 16)]), s 5 (.mv (t 17))]) (.seq (.region false [s 18 (.mv (t 0)), s 19 (.call 38 [(t 18)]), s 6 (.mv (t 19))]) (.seq (.region false [s 20 (.mv (t 0)), s 21 (.call 38 [(t 20)]), s 7 (.mv (t 21))]) (.seq (.region false [s 22 (.mv (t 5)), s 23 (.bin .mul (t 22) (.const (.int .i64 65536))), s 24 (.mv (t 6)), s 25 (.bin .mul (t 24) (.const (.int .i64 256))), s 26 (.bin .add (t 23) (t 25)), s 27 (.mv (t 7)), s 28 (.bin .add (t 26) (t 27)), s 29 (.mv (t 1)), s 30 (.bin .rem (t 28) (t 29)), s 4 (.mv (t 30))]) .ret)))))))
def dBelow.keep : List Nat := [0, 1, 4, 5, 6, 7]
def dBelow.res : List RRes := [.tmp 4]
theorem dBelow.ofL {mo : Bool} {b0 : List ABox} {args : List AV} {Φ : AV → List ABox → Fr → Prop} (hd : noDead b0 = true) (hn : Nat.ble args.length Tryd.f27.ntmps = true) (h : aCode (Kn mo Tryd.prog) dBelow.keep b0.length dBelow.code (doneL dBelow.res Φ) ⟨argEnv 0 args, b0, []⟩) : Abs.Lent mo Tryd.prog 27 b0 args Φ :=
  Abs.Lent.of_ir hd Tryd.func27 rfl (by kernel_rfl) (Nat.le_of_ble_eq_true hn) (by kernel_rfl) (by kernel_rfl) h
def dOnce.code : ACode := (.seq (.region false [s 4 (.mv (.const (.bool false)))]) (.seq (.region false [s 5 (.mv (t 0)), s 6 (.mv (t 1)), s 7 (.call 27 [(t 5), (t 6)]), s 8 (.bin .eql (t 7) (.const (.int .i64 0))), s 4 (.mv (t 8))]) .ret))
def dOnce.keep : List Nat := [0, 1, 4]
def dOnce.res : List RRes := [.tmp 4]
theorem dOnce.ofL {mo : Bool} {b0 : List ABox} {args : List AV} {Φ : AV → List ABox → Fr → Prop} (hd : noDead b0 = true) (hn : Nat.ble args.length Tryd.f25.ntmps = true) (h : aCode (Kn mo Tryd.prog) dOnce.keep b0.length dOnce.code (doneL dOnce.res Φ) ⟨argEnv 0 args, b0, []⟩) : Abs.Lent mo Tryd.prog 25 b0 args Φ :=
  Abs.Lent.of_ir hd Tryd.func25 rfl (by kernel_rfl) (Nat.le_of_ble_eq_true hn) (by kernel_rfl) (by kernel_rfl) h
def dInt.code : ACode := (.seq (.region false [s 4 (.mv (.const (.int .i64 0)))]) (.seq (.region false [s 5 (.mv (t 1)), s 6 (.mv (t 0)), s 7 (.mv (t 1)), s 8 (.len false (t 7)), s 9 (.call 27 [(t 6), (t 8)]), s 10 (.iadr 1 (t 5) (t 9)), s 11 (.load false 1 (t 10)), s 4 (.mv (t 11))]) .ret))
def dInt.keep : List Nat := [0, 1, 4]
def dInt.res : List RRes := [.tmp 4]
theorem dInt.ofL {mo : Bool} {b0 : List ABox} {args : List AV} {Φ : AV → List ABox → Fr → Prop} (hd : noDead b0 = true) (hn : Nat.ble args.length Tryd.f37.ntmps = true) (h : aCode (Kn mo Tryd.prog) dInt.keep b0.length dInt.code (doneL dInt.res Φ) ⟨argEnv 0 args, b0, []⟩) : Abs.Lent mo Tryd.prog 37 b0 args Φ :=
  Abs.Lent.of_ir hd Tryd.func37 rfl (by kernel_rfl) (Nat.le_of_ble_eq_true hn) (by kernel_rfl) (by kernel_rfl) h
def dStr.code : ACode := (.seq (.region false [s 4 (.mv (.const (.string (.mk #[]))))]) (.seq (.region false [s 5 (.mv (t 1)), s 6 (.mv (t 0)), s 7 (.mv (t 1)), s 8 (.len false (t 7)), s 9 (.call 27 [(t 6), (t 8)]), s 10 (.iadr 1 (t 5) (t 9)), s 11 (.load false 1 (t 10)), s 4 (.mv (t 11))]) .ret))
def dStr.keep : List Nat := [0, 1, 4]
def dStr.res : List RRes := [.tmp 4]
theorem dStr.ofL {mo : Bool} {b0 : List ABox} {args : List AV} {Φ : AV → List ABox → Fr → Prop} (hd : noDead b0 = true) (hn : Nat.ble args.length Tryd.f40.ntmps = true) (h : aCode (Kn mo Tryd.prog) dStr.keep b0.length dStr.code (doneL dStr.res Φ) ⟨argEnv 0 args, b0, []⟩) : Abs.Lent mo Tryd.prog 40 b0 args Φ :=
  Abs.Lent.of_ir hd Tryd.func40 rfl (by kernel_rfl) (Nat.le_of_ble_eq_true hn) (by kernel_rfl) (by kernel_rfl) h
def dOdd.code : ACode := (.seq (.region false [s 2 (.mv (.const (.int .i64 0)))]) (.seq (.region false [s 3 (.mv (t 0)), s 4 (.bslice 3 1 true [(.const (.int .i64 (-1))), (.const (.int .i64 0)), (.const (.int .i64 1)), (.const (.int .i64 2)), (.const (.int .i64 9)), (.const (.int .i64 10)), (.const (.int .i64 24)), (.const (.int .i64 25)), (.const (.int .i64 200)), (.const (.int .i64 201)), (.const (.int .i64 9999)), (.const (.int .i64 10000)), (.const (.int .i64 9223372036854775807)), (.const (.int .i64 (-9223372036854775808)))]), s 5 (.call 37 [(t 3), (t 4)]), s 2 (.mv (t 5))]) .ret))
def dOdd.keep : List Nat := [0, 2]
def dOdd.res : List RRes := [.tmp 2]
theorem dOdd.ofL {mo : Bool} {b0 : List ABox} {args : List AV} {Φ : AV → List ABox → Fr → Prop} (hd : noDead b0 = true) (hn : Nat.ble args.length Tryd.f26.ntmps = true) (h : aCode (Kn mo Tryd.prog) dOdd.keep b0.length dOdd.code (doneL dOdd.res Φ) ⟨argEnv 0 args, b0, []⟩) : Abs.Lent mo Tryd.prog 26 b0 args Φ :=
  Abs.Lent.of_ir hd Tryd.func26 rfl (by kernel_rfl) (Nat.le_of_ble_eq_true hn) (by kernel_rfl) (by kernel_rfl) h
def dWord.code : ACode := (.seq (.region false [s 2 (.mv (.const (.string (.mk #[]))))]) (.seq (.region false [s 3 (.mv (t 0)), s 4 (.bslice 9 1 true [(.const (.string (.mk #[97]))), (.const (.string (.mk #[98]))), (.const (.string (.mk #[111, 110]))), (.const (.string (.mk #[55]))), (.const (.string (.mk #[49, 48]))), (.const (.string (.mk #[57, 57, 57, 57]))), (.const (.string (.mk #[49, 48, 48, 48, 48]))), (.const (.string (.mk #[48, 48, 55]))), (.const (.string (.mk #[48]))), (.const (.string (.mk #[]))), (.const (.string (.mk #[65]))), (.const (.string (.mk #[63, 120]))), (.const (.string (.mk #[63, 63]))), (.const (.string (.mk #[63]))), (.const (.string (.mk #[97, 98, 99, 100, 101, 102, 103, 104]))), (.const (.string (.mk #[97, 98, 99, 100, 101, 102, 103, 104, 105]))), (.const (.string (.mk #[63, 97, 98, 99, 100, 101, 102, 103, 104]))), (.const (.string (.mk #[97, 45, 98]))), (.const (.string (.mk #[120, 49]))), (.const (.string (.mk #[49, 120]))), (.const (.string (.mk #[45, 51])))]), s 5 (.call 40 [(t 3), (t 4)]), s 2 (.mv (t 5))]) .ret))
def dWord.keep : List Nat := [0, 2]
def dWord.res : List RRes := [.tmp 2]
theorem dWord.ofL {mo : Bool} {b0 : List ABox} {args : List AV} {Φ : AV → List ABox → Fr → Prop} (hd : noDead b0 = true) (hn : Nat.ble args.length Tryd.f30.ntmps = true) (h : aCode (Kn mo Tryd.prog) dWord.keep b0.length dWord.code (doneL dWord.res Φ) ⟨argEnv 0 args, b0, []⟩) : Abs.Lent mo Tryd.prog 30 b0 args Φ :=
  Abs.Lent.of_ir hd Tryd.func30 rfl (by kernel_rfl) (Nat.le_of_ble_eq_true hn) (by kernel_rfl) (by kernel_rfl) h
def DrawFormatInt.code : ACode := (.seq (.region false [s 2 (.mv (.const (.int .i64 0)))]) (.seq (.region false [s 4 (.mv (t 0)), s 5 (.call 24 [(t 4)]), s 3 (.mv (t 5))]) (.seq (.seq (.region false [s 6 (.mv (t 3)), s 7 (.call 25 [(t 6), (.const (.int .i64 3))])]) (.cond (t 7) (.seq (.region false [s 8 (.mv (t 3)), s 9 (.call 26 [(t 8)]), s 2 (.mv (t 9))]) .ret) .skip)) (.seq (.region false [s 10 (.mv (t 3)), s 11 (.call 27 [(t 10), (.const (.int .i64 12000))]), s 2 (.mv (t 11))]) .ret))))
def DrawFormatInt.keep : List Nat := [0, 2, 3]
def DrawFormatInt.res : List RRes := [.tmp 2]
theorem DrawFormatInt.of {mo : Bool} {args : List AV} {r : AV} {frs : Fr} (hn : Nat.ble args.length Tryd.f7.ntmps = true) (h : aCode (Kn mo Tryd.prog) DrawFormatInt.keep 0 DrawFormatInt.code (doneK DrawFormatInt.res r frs) ⟨argEnv 0 args, [], []⟩) : Abs.Ret mo Tryd.prog 7 args r frs :=
  Abs.Ret.of_ir Tryd.func7 rfl (by kernel_rfl) (Nat.le_of_ble_eq_true hn) (by kernel_rfl) (by kernel_rfl) h
theorem DrawFormatInt.ofS {mo : Bool} {args : List AV} {r : AV} (hr : isScalR r = true) (hn : Nat.ble args.length Tryd.f7.ntmps = true) (h : aCode (Kn mo Tryd.prog) DrawFormatInt.keep 0 DrawFormatInt.code (doneS DrawFormatInt.res r) ⟨argEnv 0 args, [], []⟩) : Abs.Ret mo Tryd.prog 7 args r [] :=
  Abs.Ret.of_irS hr Tryd.func7 rfl (by kernel_rfl) (Nat.le_of_ble_eq_true hn) (by kernel_rfl) (by kernel_rfl) h
theorem DrawFormatInt.ofL {mo : Bool} {b0 : List ABox} {args : List AV} {Φ : AV → List ABox → Fr → Prop} (hd : noDead b0 = true) (hn : Nat.ble args.length Tryd.f7.ntmps = true) (h : aCode (Kn mo Tryd.prog) DrawFormatInt.keep b0.length DrawFormatInt.code (doneL DrawFormatInt.res Φ) ⟨argEnv 0 args, b0, []⟩) : Abs.Lent mo Tryd.prog 7 b0 args Φ :=
  Abs.Lent.of_ir hd Tryd.func7 rfl (by kernel_rfl) (Nat.le_of_ble_eq_true hn) (by kernel_rfl) (by kernel_rfl) h
abbrev DrawFormatInt.Lent (b0 : List ABox) (args : List AV) (Φ : AV → List ABox → Fr → Prop) : Prop := Abs.Lent true Tryd.prog 7 b0 args Φ
abbrev DrawFormatInt.Ret (args : List AV) (r : AV) (frs : Fr) : Prop := Abs.Ret true Tryd.prog 7 args r frs
abbrev DrawFormatInt.RetN (args : List AV) (r : AV) (frs : Fr) : Prop := Abs.Ret false Tryd.prog 7 args r frs
def DrawIsTerm.code : ACode := (.seq (.region false [s 2 (.mv (.const (.string (.mk #[]))))]) (.seq (.region false [s 3 (.mv (t 0)), s 4 (.call 24 [(t 3)]), s 5 (.call 30 [(t 4)]), s 2 (.mv (t 5))]) .ret))
def DrawIsTerm.keep : List Nat := [0, 2]
def DrawIsTerm.res : List RRes := [.tmp 2]
theorem DrawIsTerm.of {mo : Bool} {args : List AV} {r : AV} {frs : Fr} (hn : Nat.ble args.length Tryd.f10.ntmps = true) (h : aCode (Kn mo Tryd.prog) DrawIsTerm.keep 0 DrawIsTerm.code (doneK DrawIsTerm.res r frs) ⟨argEnv 0 args, [], []⟩) : Abs.Ret mo Tryd.prog 10 args r frs :=
  Abs.Ret.of_ir Tryd.func10 rfl (by kernel_rfl) (Nat.le_of_ble_eq_true hn) (by kernel_rfl) (by kernel_rfl) h
theorem DrawIsTerm.ofS {mo : Bool} {args : List AV} {r : AV} (hr : isScalR r = true) (hn : Nat.ble args.length Tryd.f10.ntmps = true) (h : aCode (Kn mo Tryd.prog) DrawIsTerm.keep 0 DrawIsTerm.code (doneS DrawIsTerm.res r) ⟨argEnv 0 args, [], []⟩) : Abs.Ret mo Tryd.prog 10 args r [] :=
  Abs.Ret.of_irS hr Tryd.func10 rfl (by kernel_rfl) (Nat.le_of_ble_eq_true hn) (by kernel_rfl) (by kernel_rfl) h
theorem DrawIsTerm.ofL {mo : Bool} {b0 : List ABox} {args : List AV} {Φ : AV → List ABox → Fr → Prop} (hd : noDead b0 = true) (hn : Nat.ble args.length Tryd.f10.ntmps = true) (h : aCode (Kn mo Tryd.prog) DrawIsTerm.keep b0.length DrawIsTerm.code (doneL DrawIsTerm.res Φ) ⟨argEnv 0 args, b0, []⟩) : Abs.Lent mo Tryd.prog 10 b0 args Φ :=
  Abs.Lent.of_ir hd Tryd.func10 rfl (by kernel_rfl) (Nat.le_of_ble_eq_true hn) (by kernel_rfl) (by kernel_rfl) h
abbrev DrawIsTerm.Lent (b0 : List ABox) (args : List AV) (Φ : AV → List ABox → Fr → Prop) : Prop := Abs.Lent true Tryd.prog 10 b0 args Φ
abbrev DrawIsTerm.Ret (args : List AV) (r : AV) (frs : Fr) : Prop := Abs.Ret true Tryd.prog 10 args r frs
abbrev DrawIsTerm.RetN (args : List AV) (r : AV) (frs : Fr) : Prop := Abs.Ret false Tryd.prog 10 args r frs
def DrawCompareAtoms.code : ACode := (.seq (.region false [s 2 (.mv (.const (.string (.mk #[])))), s 3 (.mv (.const (.string (.mk #[]))))]) (.seq (.region false [s 5 (.mv (t 0)), s 6 (.call 24 [(t 5)]), s 4 (.mv (t 6))]) (.seq (.region false [s 7 (.mv (t 4)), s 8 (.call 30 [(t 7)]), s 9 (.mv (t 4)), s 10 (.call 30 [(t 9)]), s 2 (.mv (t 8)), s 3 (.mv (t 10))]) .ret)))
def DrawCompareAtoms.keep : List Nat := [0, 2, 3, 4]
def DrawCompareAtoms.res : List RRes := [.tmp 2, .tmp 3]
theorem DrawCompareAtoms.of {mo : Bool} {args : List AV} {r : AV} {frs : Fr} (hn : Nat.ble args.length Tryd.f16.ntmps = true) (h : aCode (Kn mo Tryd.prog) DrawCompareAtoms.keep 0 DrawCompareAtoms.code (doneK DrawCompareAtoms.res r frs) ⟨argEnv 0 args, [], []⟩) : Abs.Ret mo Tryd.prog 16 args r frs :=
  Abs.Ret.of_ir Tryd.func16 rfl (by kernel_rfl) (Nat.le_of_ble_eq_true hn) (by kernel_rfl) (by kernel_rfl) h
theorem DrawCompareAtoms.ofS {mo : Bool} {args : List AV} {r : AV} (hr : isScalR r = true) (hn : Nat.ble args.length Tryd.f16.ntmps = true) (h : aCode (Kn mo Tryd.prog) DrawCompareAtoms.keep 0 DrawCompareAtoms.code (doneS DrawCompareAtoms.res r) ⟨argEnv 0 args, [], []⟩) : Abs.Ret mo Tryd.prog 16 args r [] :=
  Abs.Ret.of_irS hr Tryd.func16 rfl (by kernel_rfl) (Nat.le_of_ble_eq_true hn) (by kernel_rfl) (by kernel_rfl) h
theorem DrawCompareAtoms.ofL {mo : Bool} {b0 : List ABox} {args : List AV} {Φ : AV → List ABox → Fr → Prop} (hd : noDead b0 = true) (hn : Nat.ble args.length Tryd.f16.ntmps = true) (h : aCode (Kn mo Tryd.prog) DrawCompareAtoms.keep b0.length DrawCompareAtoms.code (doneL DrawCompareAtoms.res Φ) ⟨argEnv 0 args, b0, []⟩) : Abs.Lent mo Tryd.prog 16 b0 args Φ :=
  Abs.Lent.of_ir hd Tryd.func16 rfl (by kernel_rfl) (Nat.le_of_ble_eq_true hn) (by kernel_rfl) (by kernel_rfl) h
abbrev DrawCompareAtoms.Lent (b0 : List ABox) (args : List AV) (Φ : AV → List ABox → Fr → Prop) : Prop := Abs.Lent true Tryd.prog 16 b0 args Φ
abbrev DrawCompareAtoms.Ret (args : List AV) (r : AV) (frs : Fr) : Prop := Abs.Ret true Tryd.prog 16 args r frs
abbrev DrawCompareAtoms.RetN (args : List AV) (r : AV) (frs : Fr) : Prop := Abs.Ret false Tryd.prog 16 args r frs
def lawAtoms.code : ACode := (.seq (.region false [s 2 (.mv (.const (.bool false)))]) (.seq (.seq (.region false [s 9 (.mv (t 0)), s 10 (.call 6 [(t 9)])]) (.cond (t 10) (.seq (.region false [s 2 (.mv (.const (.bool true)))]) .ret) .skip)) (.seq (.region false [s 11 (.mv (t 0)), s 12 (.call 7 [(t 11)]), s 3 (.mv (t 12))]) (.seq (.region false [s 14 (.mv (t 3)), s 15 (.call 9 [(t 14)]), s 16 (.call 8 [(t 15)]), s 13 (.mv (t 16)), s 17 (.extract (t 13) 0), s 18 (.extract (t 13) 1), s 4 (.mv (t 17)), s 5 (.mv (t 18))]) (.seq (.seq (.region false [s 19 (.mv (t 5)), s 20 (.mv (t 3)), s 21 (.bin .geq (t 20) (.const (.int .i64 0))), s 22 (.mv (t 21)), g 22 true 23 (.mv (t 3)), g 22 true 24 (.bin .leq (t 23) (.const (.int .i64 9999))), s 25 (.and (t 22) (t 24)), s 26 (.binb .neq (t 19) (t 25)), s 27 (.mv (t 26)), g 27 false 28 (.mv (t 5)), g 27 false 29 (.mv (t 28)), g 29 true 30 (.mv (t 4)), g 29 true 31 (.mv (t 3)), g 29 true 32 (.bin .neq (t 30) (t 31)), g 27 false 33 (.and (t 29) (t 32)), s 34 (.or (t 27) (t 33))]) (.cond (t 34) (.seq (.region false [s 2 (.mv (.const (.bool false)))]) .ret) .skip)) (.seq (.region false [s 35 (.mv (t 0)), s 36 (.call 10 [(t 35)]), s 6 (.mv (t 36))]) (.seq (.seq (.region false [s 37 (.mv (t 6)), s 38 (.call 11 [(t 37)]), s 39 (.mv (t 38)), g 39 true 40 (.mv (t 6)), g 39 true 41 (.call 12 [(t 40)]), s 42 (.and (t 39) (t 41)), s 43 (.mv (t 42)), g 43 false 44 (.mv (t 6)), g 43 false 45 (.call 13 [(t 44)]), g 43 false 46 (.mv (t 45)), g 46 true 47 (.mv (t 6)), g 46 true 48 (.call 14 [(t 47)]), g 43 false 49 (.and (t 46) (t 48)), s 50 (.or (t 43) (t 49)), s 51 (.mv (t 50)), g 51 false 52 (.mv (t 6)), g 51 false 53 (.call 15 [(t 52)]), g 51 false 54 (.mv (t 6)), g 51 false 55 (.call 13 [(t 54)]), g 51 false 56 (.mv (t 55)), g 56 false 57 (.mv (t 6)), g 56 false 58 (.call 14 [(t 57)]), g 51 false 59 (.or (t 56) (t 58)), g 51 false 60 (.binb .neq (t 53) (t 59)), s 61 (.or (t 51) (t 60))]) (.cond (t 61) (.seq (.region false [s 2 (.mv (.const (.bool false)))]) .ret) .skip)) (.seq (.region false [s 63 (.mv (t 0)), s 64 (.call 16 [(t 63)]), s 62 (.mv (t 64)), s 65 (.extract (t 62) 0), s 66 (.extract (t 62) 1), s 7 (.mv (t 65)), s 8 (.mv (t 66))]) (.seq (.region false [s 67 (.mv (t 7)), s 68 (.mv (t 8)), s 69 (.call 17 [(t 67), (t 68)]), s 70 (.mv (t 8)), s 71 (.mv (t 7)), s 72 (.call 17 [(t 70), (t 71)]), s 73 (.neg (t 72)), s 74 (.bin .eql (t 69) (t 73)), s 75 (.mv (t 74)), g 75 true 76 (.mv (t 7)), g 75 true 77 (.mv (t 8)), g 75 true 78 (.call 17 [(t 76), (t 77)]), g 75 true 79 (.bin .eql (t 78) (.const (.int .i64 0))), g 75 true 80 (.mv (t 7)), g 75 true 81 (.mv (t 8)), g 75 true 82 (.bin .eql (t 80) (t 81)), g 75 true 83 (.binb .eql (t 79) (t 82)), s 84 (.and (t 75) (t 83)), s 2 (.mv (t 84))]) .ret)))))))))
def lawAtoms.keep : List Nat := [0, 2, 3, 4, 5, 6, 7, 8]
def lawAtoms.res : List RRes := [.tmp 2]
theorem lawAtoms.of {mo : Bool} {args : List AV} {r : AV} {frs : Fr} (hn : Nat.ble args.length Tryd.f3.ntmps = true) (h : aCode (Kn mo Tryd.prog) lawAtoms.keep 0 lawAtoms.code (doneK lawAtoms.res r frs) ⟨argEnv 0 args, [], []⟩) : Abs.Ret mo Tryd.prog 3 args r frs :=
  Abs.Ret.of_ir Tryd.func3 rfl (by kernel_rfl) (Nat.le_of_ble_eq_true hn) (by kernel_rfl) (by kernel_rfl) h
abbrev lawAtoms.RetN (args : List AV) (r : AV) (frs : Fr) : Prop := Abs.Ret false Tryd.prog 3 args r frs
def lbig.code : ACode := (.seq (.region false [s 2 (.mv (.const (.bool false)))]) (.seq (.region false [s 3 (.mv (t 0)), s 4 (.len false (t 3)), s 5 (.bin .gtr (t 4) (.const (.int .i64 4096))), s 2 (.mv (t 5))]) .ret))
def lbig.keep : List Nat := [0, 2]
def lbig.res : List RRes := [.tmp 2]
theorem lbig.of {mo : Bool} {args : List AV} {r : AV} {frs : Fr} (hn : Nat.ble args.length Tryd.f6.ntmps = true) (h : aCode (Kn mo Tryd.prog) lbig.keep 0 lbig.code (doneK lbig.res r frs) ⟨argEnv 0 args, [], []⟩) : Abs.Ret mo Tryd.prog 6 args r frs :=
  Abs.Ret.of_ir Tryd.func6 rfl (by kernel_rfl) (Nat.le_of_ble_eq_true hn) (by kernel_rfl) (by kernel_rfl) h
abbrev lbig.Ret (args : List AV) (r : AV) (frs : Fr) : Prop := Abs.Ret true Tryd.prog 6 args r frs
def lawExactFormatInt.code : ACode := (.seq (.region false [s 2 (.mv (.const (.bool false)))]) (.seq (.region false [s 5 (.mv (t 0)), s 6 (.call 18 [(t 5)]), s 3 (.mv (t 6))]) (.seq (.region false [s 7 (.mv (t 0)), s 8 (.call 9 [(t 7)]), s 4 (.mv (t 8))]) (.seq (.seq (.region false [s 9 (.mv (t 4)), s 10 (.mv (t 3)), s 11 (.bin .neq (t 9) (t 10))]) (.cond (t 11) (.seq (.region false [s 2 (.mv (.const (.bool false)))]) .ret) .skip)) (.seq (.region false [s 2 (.mv (.const (.bool true)))]) .ret)))))
def lawExactFormatInt.keep : List Nat := [0, 2, 3, 4]
def lawExactFormatInt.res : List RRes := [.tmp 2]
theorem lawExactFormatInt.of {mo : Bool} {args : List AV} {r : AV} {frs : Fr} (hn : Nat.ble args.length Tryd.f4.ntmps = true) (h : aCode (Kn mo Tryd.prog) lawExactFormatInt.keep 0 lawExactFormatInt.code (doneK lawExactFormatInt.res r frs) ⟨argEnv 0 args, [], []⟩) : Abs.Ret mo Tryd.prog 4 args r frs :=
  Abs.Ret.of_ir Tryd.func4 rfl (by kernel_rfl) (Nat.le_of_ble_eq_true hn) (by kernel_rfl) (by kernel_rfl) h
abbrev lawExactFormatInt.Ret (args : List AV) (r : AV) (frs : Fr) : Prop := Abs.Ret true Tryd.prog 4 args r frs
end Go.Proofs.YtakojclbmhphnaaDoor
namespace Go.Proofs.YtakojclbmhphnaaDoor
namespace Abs
variable {mo : Bool} {P : Program}
theorem Sees0.tup {xs ys : List AV} (h : SeesL Sees0 xs ys) : Sees0 (.tup xs) (.tup ys) := fun hx B' box' => by
  have hx := hx.tup_inv
  cases hx with
  | tup _ vs hl hr =>
    refine .tup _ _ (by rw [← h.length]; exact hl) (fun i c hc => ?_)
    obtain ⟨x, hx, hs⟩ := h.get' hc
    exact hs (.rep _ _ (hr i x hx)) B' box'
def deads (n : Nat) : List ABox := List.replicate n .dead
theorem deads_len (n : Nat) : (deads n).length = n := List.length_replicate
theorem deads_get {n j : Nat} {x : ABox} (h : (deads n)[j]? = some x) : x = .dead := List.eq_of_mem_replicate (List.mem_of_getElem? h)
theorem CondB.take {w : World} {box : List BId} (h : CondB w box) (m : Nat) : CondB w (box.take m) := h.sub fun j b c hj => ⟨j, by
  rw [List.getElem?_take] at hj
  split at hj
  · exact hj
  · cases hj⟩
theorem take_get {α : Type} {l : List α} {m j : Nat} {x : α} (h : (l.take m)[j]? = some x) : l[j]? = some x ∧ j < m := by
  rw [List.getElem?_take] at h
  split at h
  · exact ⟨h, by assumption⟩
  · cases h
theorem mask_pre : ∀ (b c : List ABox) (box : List BId) (j : Nat) (x : BId), (mask b (box.take b.length))[j]? = some x → (mask (b ++ c) box)[j]? = some x
  | [], _, _, j, x, h => by simp [mask] at h
  | y :: b, c, [], j, x, h => by cases y <;> simp [mask] at h
  | y :: b, c, d :: box, j, x, h => by
    have ih := mask_pre b c box
    cases y <;> (cases j with
      | zero => simpa [mask] using h
      | succ j => simp only [List.length_cons, List.take_succ_cons, mask, List.getElem?_cons_succ] at h; simp only [List.cons_append, mask, List.getElem?_cons_succ]; exact ih j x h)
theorem BoxOk.take {B : Nat} {w : World} {F : Nat → Nat} {tok : List (Option Nat)} {fr : Fr} {box : List BId} {m : Nat} {d : BId} {x : ABox} (h : BoxOk B w F tok fr box d x) (hx : ∀ k cs, x = .cells k cs → inB.inBL m cs) : BoxOk B w F tok fr (box.take m) d x := by
  cases d with
  | blk b c =>
    cases x with
    | cells k cs =>
      obtain ⟨c', t, h1, h2, h3, h4⟩ := h
      exact ⟨c', t, h1, h2, fun i y hy => ⟨(h3 i y hy).1.take (inBL_mem (hx k cs rfl) (List.mem_of_getElem? hy)), (h3 i y hy).2⟩, h4⟩
    | iter s p => exact h
    | map m => exact h
    | dead => exact trivial
  | nil =>
    cases x with
    | cells k cs => exact h
    | iter s p => exact h
    | map m => exact h
    | dead => exact trivial
theorem BoxOk.wide {B : Nat} {w : World} {F : Nat → Nat} {tok : List (Option Nat)} {fr : Fr} {box box' : List BId} (hb : ∀ (j : Nat) d, box[j]? = some d → box'[j]? = some d) {d : BId} {x : ABox} (h : BoxOk B w F tok fr box d x) : BoxOk B w F tok fr box' d x :=
  h.later (Later.refl w F tok fr) hb (fun _ _ _ _ => rfl)
theorem Lent.mono {f : Nat} {b0 : List ABox} {args : List AV} {Φ Ψ : AV → List ABox → Fr → Prop} (h : Lent mo P f b0 args Φ) (hΦ : ∀ r b fr, Φ r b fr → Ψ r b fr) : Lent mo P f b0 args Ψ := by
  rw [Lent_eq] at *
  refine ⟨h.1, fun w F vs box0 q a b c d e g => (h.2 w F vs box0 q a b c d e g).mono ?_⟩
  rintro en w' ⟨v, F', box1, tok, frs, r, b1, h1, h2⟩
  exact ⟨v, F', box1, tok, frs, r, b1, hΦ _ _ _ h1, h2⟩
/-- what is handed back is only read; boxes that were laid are forgotten -/
theorem Lent.trim {f : Nat} {b0 : List ABox} {args : List AV} {Φ Ψ : AV → List ABox → Fr → Prop} (h : Lent mo P f b0 args Φ)
    (hΦ : ∀ r b fr, Φ r b fr → ∃ r', Ψ r' (b.take b0.length) [] ∧ Sees0 r r' ∧ ∀ x ∈ b.take b0.length, ∀ k cs, x = .cells k cs → inB.inBL b0.length cs) : Lent mo P f b0 args Ψ := by
  rw [Lent_eq] at *
  refine ⟨h.1, fun w F vs box0 q a b c d e g => (h.2 w F vs box0 q a b c d e g).mono ?_⟩
  rintro en w' ⟨v, F', box1, tok, frs, r, b1, h1, h2, h3, h4, h5, h6, h7, h8, h9, h10, h11, h12, h13, h14, h15, h16⟩
  obtain ⟨r', k1, k2, k3⟩ := hΦ _ _ _ h1
  have hle : box0.length ≤ box1.length := by
    rcases Nat.lt_or_ge box1.length box0.length with h | h
    · have := getElem?_lt (h6 box1.length _ (List.getElem?_eq_getElem h)); omega
    · exact h
  have lv : ∀ j, j < b0.length → live (b1.take b0.length) j → live b1 j := fun j hj hl hd => hl (by rw [List.getElem?_take, if_pos hj]; exact hd)
  refine ⟨v, F', box1.take b0.length, [], [], _, b1.take b0.length, k1, h2, h3, h4, h5, fun j d hj => ?_, by rw [List.length_take, List.length_take, h7], fun j b c hj hb => ?_, fun j b c hj hl => ?_, fun i j b c c' hi hj li lj => ?_, fun j d x hj hx => ?_, rfl, by simp, by simp, by simp, ?_⟩
  · rw [List.getElem?_take, if_pos (by have := getElem?_lt hj; omega)]; exact h6 j d hj
  · have := (take_get hb).2; omega
  · obtain ⟨e1, e2⟩ := take_get hj
    exact h9 j b c e1 (lv j e2 hl)
  · obtain ⟨e1, e2⟩ := take_get hi
    obtain ⟨e3, e4⟩ := take_get hj
    exact h10 i j b c c' e1 e3 (lv i e2 li) (lv j e4 lj)
  · obtain ⟨e1, e2⟩ := take_get hj
    obtain ⟨e3, e4⟩ := take_get hx
    intro hor
    exact (h11 j d x e1 e3 hor).take (fun k cs he => k3 x (List.mem_of_getElem? hx) k cs he)
  · exact k2 (.rep _ _ h16) _ _
/-- .. and may have any other boxes beside it -/
theorem Lent.wide {f : Nat} {b0 : List ABox} {args : List AV} {Φ : AV → List ABox → Fr → Prop} (h : Lent mo P f b0 args Φ) (n : Nat) (ha : ∀ x ∈ args, inB b0.length x) (hb0 : ∀ x ∈ b0, ∀ k cs, x = .cells k cs → inB.inBL b0.length cs)
    (hΦ : ∀ r b fr, Φ r b fr → b.length = b0.length) : Lent mo P f (b0 ++ deads n) args (fun r b1 f1 => ∃ b, Φ r b f1 ∧ b1 = b ++ deads n) := by
  rw [Lent_eq] at *
  refine ⟨h.1, fun w F vs box0 hc hout hbl hbi hbj hB hargs => ?_⟩
  have hl0 : box0.length = b0.length + n := by rw [hbl, List.length_append, deads, List.length_replicate]
  have lv : ∀ j, j < b0.length → live b0 j → live (b0 ++ deads n) j := fun j hj hl hd => hl (by rw [List.getElem?_append_left hj] at hd; exact hd)
  have hlt : (box0.take b0.length).length = b0.length := by rw [List.length_take]; omega
  refine (h.2 w F vs (box0.take b0.length) (hc.take _) hout hlt (fun j b c hj => ?_) (fun i j b c c' hi hj li lj => ?_) (fun j d x hj hx => ?_) ⟨hargs.1, fun i x v hx hv => (hargs.2 i x v hx hv).take (ha x (List.mem_of_getElem? hx))⟩).mono ?_
  · obtain ⟨e1, e2⟩ := take_get hj
    exact ⟨(hbi j b c e1).1, fun hl => (hbi j b c e1).2 (lv j e2 hl)⟩
  · obtain ⟨e1, e2⟩ := take_get hi
    obtain ⟨e3, e4⟩ := take_get hj
    exact hbj i j b c c' e1 e3 (lv i e2 li) (lv j e4 lj)
  · obtain ⟨e1, e2⟩ := take_get hj
    exact (hB j d x e1 (by rw [List.getElem?_append_left e2]; exact hx)).take (fun k cs he => hb0 x (List.mem_of_getElem? hx) k cs he)
  rintro en w' ⟨v, F', box1, tok, frs, r, b1, h1, h2, h3, h4, h5, h6, h7, h8, h9, h10, h11, h12, h13, h14, h15, h16⟩
  have hb1 := hΦ _ _ _ h1
  have hbx : box1 = box0.take b0.length := by
    refine List.ext_getElem? fun j => ?_
    rcases Nat.lt_or_ge j b0.length with hj | hj
    · have : (box0.take b0.length)[j]? = some ((box0.take b0.length)[j]'(by omega)) := List.getElem?_eq_getElem (by omega)
      rw [this]; exact h6 j _ this
    · rw [List.getElem?_eq_none (by omega), List.getElem?_eq_none (by omega)]
  subst hbx
  have dd : ∀ (bb : List ABox), bb.length = b0.length → ∀ j, j < box0.length → live (bb ++ deads n) j → j < b0.length ∧ live bb j := fun bb hbb j hj hl => by
    rcases Nat.lt_or_ge j b0.length with h | h
    · exact ⟨h, fun hd => hl (by rw [List.getElem?_append_left (by omega)]; exact hd)⟩
    · exact absurd (by rw [List.getElem?_append_right (by omega), deads, List.getElem?_replicate, if_pos (by omega)]) hl
  have up : ∀ (j : Nat) d, (box0.take b0.length)[j]? = some d → box0[j]? = some d := fun j d hj => (take_get hj).1
  have dn : ∀ (j : Nat) d, box0[j]? = some d → j < b0.length → (box0.take b0.length)[j]? = some d := fun j d hj hlt => by rw [List.getElem?_take, if_pos hlt]; exact hj
  refine ⟨v, F', box0, tok, frs, r, b1 ++ deads n, ⟨b1, h1, rfl⟩, h2, ⟨h3.drawn, h3.os, h3.tape, h3.output, h3.size, fun k hk hn => h3.block k hk fun j c hj => hn j c (mask_pre b0 (deads n) box0 j _ hj)⟩, h4, h5, fun _ _ h => h,
    by rw [List.length_append, deads, List.length_replicate, hb1, hl0], fun j b c hj hb => ?_, fun j b c hj hl hor => ?_, fun i j b c c' hi hj li lj oi oj => ?_, fun j d x hj hx hor => ?_, h12, h13, h14, fun k b j c hk hj => ?_, h16.later (Later.refl _ _ _ _) up⟩
  · have := getElem?_lt hb; omega
  · obtain ⟨e1, e2⟩ := dd b1 hb1 j (getElem?_lt hj) hl
    exact h9 j b c (dn j _ hj e1) e2 (hor.elim (fun h => .inl (by omega)) fun h => .inr (dd b0 rfl j (getElem?_lt hj) h).2)
  · obtain ⟨e1, e2⟩ := dd b1 hb1 i (getElem?_lt hi) li
    obtain ⟨e3, e4⟩ := dd b1 hb1 j (getElem?_lt hj) lj
    exact h10 i j b c c' (dn i _ hi e1) (dn j _ hj e3) e2 e4 (oi.elim (fun h => .inl (by omega)) fun h => .inr (dd b0 rfl i (getElem?_lt hi) h).2) (oj.elim (fun h => .inl (by omega)) fun h => .inr (dd b0 rfl j (getElem?_lt hj) h).2)
  · have hjl := getElem?_lt hj
    rcases Nat.lt_or_ge j b0.length with hlt' | hge
    · rw [List.getElem?_append_left (by omega)] at hx
      refine (h11 j d x (dn j _ hj hlt') hx ?_).wide up
      rcases hor with h | h
      · omega
      · exact .inr (dd b0 rfl j hjl h).2
    · rw [List.getElem?_append_right (by omega)] at hx
      rw [deads_get hx]
      cases d <;> exact trivial
  · intro hl
    obtain ⟨e1, e2⟩ := dd b1 hb1 j (getElem?_lt hj) hl
    exact h15 k b j c hk (dn j _ hj e1) e2
mutual
theorem mapK_old : ∀ (f : Nat → Option Nat) (x : Tr), mapK f (old x) = old x
  | _, .v _ => rfl
  | _, .s _ => rfl
  | f, .l _ _ xs => by rw [old, mapK, mapTLL_old f xs]; rfl
  | f, .a fs => by rw [old, mapK, mapKL_old f fs]
  | f, .p fs => by rw [old, mapK, mapKL_old f fs]
theorem mapKL_old : ∀ (f : Nat → Option Nat) (xs : List Tr), mapK.mapKL f (oldL xs) = oldL xs
  | _, [] => rfl
  | f, x :: xs => by rw [oldL, mapK.mapKL, mapK_old f x, mapKL_old f xs]
end
theorem shiftK_old (n : Nat) (x : Tr) : shiftK n (old x) = old x := by
  cases n with
  | zero => rfl
  | succ n => exact mapK_old _ x
theorem Lends.deads : ∀ b : List ABox, Lends b (deads b.length)
  | [] => .nil
  | x :: b => .hide x (Lends.deads b)
theorem merge_deads : ∀ b : List ABox, merge b (deads b.length) (deads b.length) = b
  | [] => rfl
  | x :: b => by
    show x :: merge b (Abs.deads b.length) (Abs.deads b.length) = _
    rw [merge_deads b]
/-- a call without boxes, likewise -/
theorem Ret.lent {f : Nat} {args : List AV} {r : AV} {frs : Fr} (h : Ret mo P f args r frs) : Lent mo P f [] args (fun x b z => x = mapT noTok r ∧ b = [] ∧ z = []) := by
  rw [Lent_eq]; rw [Ret_eq] at h
  refine ⟨h.1, fun w F vs box0 hc hout hbl hbi hbj hB hargs => ?_⟩
  have e0 : box0 = [] := List.eq_nil_of_length_eq_zero hbl
  subst e0
  refine (h.2 w F vs hc hout hargs).mono ?_
  rintro en w' ⟨v, F', tok, box, h3, h4, h5, h6, h7, h8, h9, h10⟩
  exact ⟨v, F', [], [], [], _, [], ⟨rfl, rfl, rfl⟩, h3, ⟨h4.drawn, h4.os, h4.tape, h4.output, h4.size, fun k hk _ => h4.block k hk⟩, h5, h6, fun _ _ h => h, rfl, by simp, by simp, by simp, by simp, rfl, by simp, by simp, by simp, h10.mapT _ (fun _ _ h => by cases h) (fun _ _ h => by cases h) []⟩
theorem SeesL.toC {vs ys : List AV} (h : SeesL Sees0 vs ys) : SeesL SeesC vs ys := by
  induction h with
  | nil => exact .nil
  | cons h _ ih => exact .cons (.inr h) ih
def tByte : Ty Int where
  sz := 1
  q n := [.v (.int .u8 n)]
  tk n _ := [.val (.int .u8 n)]
  fr _ := []
  size _ := 0
  bd n := 0 ≤ n ∧ n < 256
  cl := [.int .u8]
  hcl xs h := by
    cases h with
    | int k n h hs =>
      cases hs
      simp only [Lit.wf, Bool.and_eq_true, decide_eq_true_eq] at h
      have h1 : IntKind.u8.min = 0 := rfl
      have h2 : IntKind.u8.max = 255 := rfl
      exact ⟨n, rfl, by omega, by omega⟩
  hq _ := rfl
  hok _ := rfl
  htk _ _ := rfl
  hnr _ _ c hc := by simp at hc; subst hc; rfl
  hsh _ _ _ := rfl
  hse _ _ := rfl
  hown a _ _ _ := ⟨_, .v _ rfl .nil, .refl _⟩
def curB (l : List Int) (i h : Int) : ABox := .cells .var [.list none (rows tByte l), .val (.int .i64 i), .val (.int .i64 h)]
structure CurOk (l : List Int) (i : Int) : Prop where
  lo : 0 ≤ i
  hi : i ≤ l.length
  len : l.length ≤ 4096
  byte : ∀ x ∈ l, 0 ≤ x ∧ x < 256
theorem curB_in (l : List Int) (i h : Int) (m : Nat) : ∀ k cs, curB l i h = .cells k cs → inB.inBL m cs := by rintro _ _ ⟨⟩; exact ⟨trivial, trivial, trivial, trivial⟩
theorem noTkLL_of : ∀ {xs : List (List AV)}, (∀ x ∈ xs, ∀ c ∈ x, noTk c = true) → noTkLL xs = true
  | [], _ => rfl
  | x :: xs, h => by
    have h1 : ∀ {cs : List AV}, (∀ c ∈ cs, noTk c = true) → noTkL cs = true := by
      intro cs
      induction cs with
      | nil => intro _; rfl
      | cons c cs ih => intro h; rw [noTkL, h c (by simp), ih fun d hd => h d (by simp [hd])]; rfl
    rw [noTkLL, h1 (h x (by simp)), noTkLL_of fun y hy => h y (by simp [hy])]; rfl
theorem rows_noTk (l : List Int) : noTkLL (oldLL (l.map tByte.q)) = true := noTkLL_of fun x hx c hc => by
  rw [oldLL_eq] at hx
  obtain ⟨e, he, rfl⟩ := List.mem_map.1 hx
  obtain ⟨n, _, rfl⟩ := List.mem_map.1 he
  simp [tByte, old] at hc
  subst hc; rfl
/-- Lent a cursor, the function hands back some X a of which Q is known, which is only read, and moves the cursor on. -/
def Drw {α : Type} (mo : Bool) (P : Program) (f : Nat) (args : List AV) (Q : α → Prop) (X : α → Tr) : Prop :=
  ∀ l i h, CurOk l i → Lent mo P f [curB l i h] (.bptr 0 0 :: args) (fun r b1 f1 => ∃ a i' h', CurOk l i' ∧ b1 = [curB l i' h'] ∧ f1 = [] ∧ Q a ∧ r = old (X a))
/-- .. what its code has to show -/
def DrwEnd {α : Type} (l : List Int) (Q : α → Prop) (X : α → Tr) (r : AV) (b1 : List ABox) (_ : Fr) : Prop := ∃ a i' h' bs, CurOk l i' ∧ b1 = curB l i' h' :: bs ∧ Q a ∧ Sees0 r (old (X a))
theorem DrwEnd.at {α : Type} {l : List Int} {Q : α → Prop} {X : α → Tr} {r : AV} {i h : Int} {bs : List ABox} {fr : Fr} (a : α) (hc : CurOk l i) (hq : Q a) (he : Sees0 r (old (X a)) := by repeat' first | exact SeesL.nil | refine SeesL.cons ?_ ?_ | exact Sees0.val _ | exact Sees0.str _ | exact Sees0.olds _ _ | exact Sees0.old _ | exact Sees0.oldagg _ | exact Sees0.nil | refine Sees0.agg ?_ | refine Sees0.tup ?_ | exact Sees0.list rfl) : DrwEnd l Q X r (curB l i h :: bs) fr := ⟨a, i, h, bs, hc, rfl, hq, he⟩
theorem Drw.of {α : Type} {f : Nat} {args : List AV} {Q : α → Prop} {X : α → Tr} (h : ∀ l i h, CurOk l i → Lent mo P f [curB l i h] (.bptr 0 0 :: args) (DrwEnd l Q X)) : Drw mo P f args Q X := fun l i h0 hi =>
  (h l i h0 hi).trim (by
    rintro r b fr ⟨a, i', h', bs, h1, rfl, h2, h3⟩
    refine ⟨_, ⟨a, i', h', h1, rfl, rfl, h2, rfl⟩, h3, fun x hx k cs he => ?_⟩
    rw [List.mem_singleton.1 hx] at he
    exact curB_in l i' h' _ k cs he)
theorem FinalC.cur {Φ : AV → List ABox → Fr → Prop} {r : AV} {l : List Int} {i h : Int} {bs : List ABox} {f : Fr} (hk : Φ r (curB l i h :: Abs.deads bs.length) f) : FinalC Φ r (curB l i h :: bs) f :=
  ⟨_, .lend _ _ (fun c hc => by
    simp only [List.mem_cons, List.not_mem_nil, or_false] at hc
    rcases hc with rfl | rfl | rfl
    · show noTkLL (oldLL _) = true
      rw [rows_noTk]
    · rfl
    · rfl) (Lends.deads bs), hk⟩
theorem BoxOk.anyBox {B : Nat} {w : World} {F : Nat → Nat} {tok : List (Option Nat)} {fr : Fr} {box : List BId} (box' : List BId) {d : BId} {x : ABox} (h : BoxOk B w F tok fr box d x) (hx : ∀ k cs, x = .cells k cs → ∀ y ∈ cs, noRef y = true) : BoxOk B w F tok fr box' d x := by
  cases d with
  | blk b c =>
    cases x with
    | cells k cs =>
      obtain ⟨c', t, h1, h2, h3, h4⟩ := h
      exact ⟨c', t, h1, h2, fun i y hy => ⟨(h3 i y hy).1.anyBox _ (hx k cs rfl y (List.mem_of_getElem? hy)), (h3 i y hy).2⟩, h4⟩
    | iter s p => exact h
    | map m => exact h
    | dead => exact trivial
  | nil =>
    cases x with
    | cells k cs => exact h
    | iter s p => exact h
    | map m => exact h
    | dead => exact trivial
theorem mask_at {c : ABox} (hc : c ≠ .dead) (rest : List ABox) : ∀ (m : Nat) (box : List BId) (d : BId), box[m]? = some d → (mask (deads m ++ c :: rest) box)[m]? = some d
  | 0, [], _, h => by simp at h
  | 0, x :: box, d, h => by
    simp at h; subst h
    cases c <;> first | rfl | exact absurd rfl hc
  | m + 1, [], _, h => by simp at h
  | m + 1, x :: box, d, h => by
    show (mask (.dead :: (deads m ++ c :: rest)) (x :: box))[m + 1]? = some d
    simp only [mask, List.getElem?_cons_succ]
    exact mask_at hc rest m box d (by simpa using h)
theorem at_live {m n j : Nat} {c : ABox} (hj : j < m + 1 + n) (h : live (deads m ++ c :: deads n) j) : j = m ∧ live [c] 0 := by
  rcases Nat.lt_trichotomy j m with h1 | h1 | h1
  · exact absurd (by rw [List.getElem?_append_left (by rw [deads_len]; exact h1), deads, List.getElem?_replicate, if_pos h1]) h
  · subst h1
    refine ⟨rfl, fun hd => h ?_⟩
    rw [List.getElem?_append_right (by rw [deads_len]; exact Nat.le_refl _), deads_len, Nat.sub_self]
    simpa using hd
  · refine absurd ?_ h
    rw [List.getElem?_append_right (by rw [deads_len]; omega)]
    obtain ⟨q, rfl⟩ : ∃ q, j = m + 1 + q := ⟨j - m - 1, by omega⟩
    rw [deads_len, show m + 1 + q - m = q + 1 by omega, List.getElem?_cons_succ, deads, List.getElem?_replicate, if_pos (by omega)]
theorem at_get (m n : Nat) (c : ABox) : (deads m ++ c :: deads n)[m]? = some c := by
  rw [List.getElem?_append_right (by rw [deads_len]; exact Nat.le_refl _), deads_len, Nat.sub_self]; rfl
/-- .. wherever the box lies -/
theorem Lent.at {f : Nat} {c : ABox} {args : List AV} {Φ : AV → List ABox → Fr → Prop} (h : Lent mo P f [c] (.bptr 0 0 :: args) Φ) (m n : Nat) (hd : c ≠ .dead) (ha : ∀ x ∈ args, noRef x = true) (hc : ∀ k cs, c = .cells k cs → ∀ y ∈ cs, noRef y = true)
    (hΦ : ∀ r b fr, Φ r b fr → noRef r = true ∧ ∃ c', b = [c'] ∧ ∀ k cs, c' = .cells k cs → ∀ y ∈ cs, noRef y = true) : Lent mo P f (deads m ++ c :: deads n) (.bptr m 0 :: args) (fun r b1 f1 => ∃ c', Φ r [c'] f1 ∧ b1 = deads m ++ c' :: deads n) := by
  rw [Lent_eq] at *
  refine ⟨h.1, fun w F vs box0 hcond hout hbl hbi hbj hB hargs => ?_⟩
  have hl0 : box0.length = m + 1 + n := by rw [hbl, List.length_append, List.length_cons, deads, deads, List.length_replicate, List.length_replicate]; omega
  obtain ⟨d, hdm⟩ : ∃ d, box0[m]? = some d := ⟨_, List.getElem?_eq_getElem (by omega)⟩
  have hlm : live (deads m ++ c :: deads n) m := fun h => hd (Option.some.inj ((at_get m n c).symm.trans h))
  obtain ⟨vs⟩ := vs
  obtain ⟨v0, vr, rfl⟩ : ∃ v0 vr, vs = v0 :: vr := by
    cases vs with
    | nil => have := hargs.1; simp at this
    | cons a l => exact ⟨a, l, rfl⟩
  obtain ⟨r0, rr⟩ := Both.cons.1 hargs
  obtain ⟨bb, cap, hbb, rfl⟩ := r0.bptr_inv
  rw [hdm] at hbb
  cases hbb
  refine (h.2 w F _ [.blk bb cap] (hcond.sub fun j b c hj => ⟨m, by cases j with
    | zero => simp at hj; rw [hdm, hj.1, hj.2]
    | succ j => simp at hj⟩) hout rfl (fun j b c hj => ?_) (fun i j b c c' hi hj _ _ => ?_) (fun j d x hj hx => ?_) (Both.cons.2 ⟨.bptr 0 0 bb cap rfl, rr.1, fun i x v hx hv => (rr.2 i x v hx hv).anyBox _ (ha x (List.mem_of_getElem? hx))⟩)).mono ?_
  · cases j with
    | zero => simp at hj; obtain ⟨rfl, rfl⟩ := hj; exact ⟨(hbi m bb cap hdm).1, fun _ => (hbi m bb cap hdm).2 hlm⟩
    | succ j => simp at hj
  · cases i <;> cases j <;> simp at hi hj ⊢
  · cases j with
    | zero => simp at hj hx; subst hj; subst hx; exact (hB m _ _ hdm (at_get m n c)).anyBox _ hc
    | succ j => simp at hj
  rintro en w' ⟨v, F', box1, tok, frs, r, b1, h1, h2, h3, h4, h5, h6, h7, h8, h9, h10, h11, h12, h13, h14, h15, h16⟩
  obtain ⟨hr, c', rfl, hc'⟩ := hΦ _ _ _ h1
  have hbx : box1 = [.blk bb cap] := by
    have := h6 0 _ rfl
    cases box1 with
    | nil => simp at this
    | cons y l =>
      simp at this h7
      subst this; rw [h7]
  subst hbx
  have at0 : ∀ j, j < box0.length → live (deads m ++ c' :: deads n) j → j = m ∧ live [c'] 0 := fun j hj hl => at_live (by omega) hl
  refine ⟨v, F', box0, tok, frs, r, deads m ++ c' :: deads n, ⟨c', h1, rfl⟩, h2, ⟨h3.drawn, h3.os, h3.tape, h3.output, h3.size, fun k hk hn => h3.block k hk fun j cc hj => ?_⟩, h4, h5, fun _ _ h => h,
    by rw [List.length_append, List.length_cons, deads, deads, List.length_replicate, List.length_replicate, hl0]; omega, fun j b c hj hb => ?_, fun j b cc hj hl hor => ?_, fun i j b cc cc' hi hj li lj oi oj => ?_, fun j dd x hj hx hor => ?_, h12, h13, h14, fun k b j cc hk hj => ?_, h16.anyBox _ hr⟩
  · obtain ⟨e1, e2, e3⟩ := mask_get _ _ _ _ _ hj
    cases j with
    | zero => simp at e1; exact hn m cap (by rw [← e1.1]; exact mask_at hd _ m box0 _ hdm)
    | succ j => simp at e1
  · have := getElem?_lt hb; omega
  · obtain ⟨rfl, e2⟩ := at0 j (getElem?_lt hj) hl
    rw [hdm] at hj; cases hj
    exact h9 0 bb cap rfl e2 (.inr fun h => hd (by simpa using h))
  · exact (at0 i (getElem?_lt hi) li).1.trans (at0 j (getElem?_lt hj) lj).1.symm
  · rcases Nat.lt_trichotomy j m with e | e | e
    · rw [List.getElem?_append_left (by rw [deads_len]; exact e)] at hx
      rw [deads_get hx]; cases dd <;> exact trivial
    · subst e
      rw [at_get] at hx; cases hx
      rw [hdm] at hj; cases hj
      exact (h11 0 _ _ rfl rfl (.inr fun h => hd (by simpa using h))).anyBox _ hc'
    · rw [List.getElem?_append_right (by rw [deads_len]; omega)] at hx
      obtain ⟨q, rfl⟩ : ∃ q, j = m + 1 + q := ⟨j - m - 1, by omega⟩
      rw [deads_len, show m + 1 + q - m = q + 1 by omega, List.getElem?_cons_succ] at hx
      rw [deads_get hx]; cases dd <;> exact trivial
  · intro hl
    obtain ⟨rfl, e2⟩ := at0 j (getElem?_lt hj) hl
    rw [hdm] at hj; cases hj
    exact h15 k bb 0 cap hk rfl e2
mutual
theorem noRef_old : ∀ x : Tr, noRef (old x) = true
  | .v _ => rfl
  | .s _ => rfl
  | .l _ _ _ => rfl
  | .a fs => noRef_oldL fs
  | .p fs => noRef_oldL fs
theorem noRef_oldL : ∀ xs : List Tr, noRef.noRefL (oldL xs) = true
  | [] => rfl
  | x :: xs => by rw [oldL, noRef.noRefL, noRef_old x, noRef_oldL xs]; rfl
end
theorem curB_ref (l : List Int) (i h : Int) : ∀ k cs, curB l i h = .cells k cs → ∀ y ∈ cs, noRef y = true := by
  rintro _ _ ⟨⟩ y hy
  simp only [List.mem_cons, List.not_mem_nil, or_false] at hy
  rcases hy with rfl | rfl | rfl <;> rfl
theorem curB_tk (l : List Int) (i h : Int) : ∀ y ∈ [AV.list none (rows tByte l), .val (.int .i64 i), .val (.int .i64 h)], noTk y = true := fun y hy => by
  simp only [List.mem_cons, List.not_mem_nil, or_false] at hy
  rcases hy with rfl | rfl | rfl
  · show noTkLL (oldLL _) = true
    rw [rows_noTk]
  · rfl
  · rfl
theorem lends_at (c : List AV) (k : RK) (hc : ∀ y ∈ c, noTk y = true) (post : List ABox) : ∀ pre : List ABox, Lends (pre ++ .cells k c :: post) (deads pre.length ++ .cells k c :: deads post.length)
  | [] => .lend k c hc (Lends.deads post)
  | x :: pre => .hide x (lends_at c k hc post pre)
theorem merge_at (c c' : List AV) (k : RK) (post : List ABox) : ∀ pre : List ABox, merge (pre ++ .cells k c :: post) (deads pre.length ++ .cells k c :: deads post.length) (deads pre.length ++ .cells k c' :: deads post.length) = pre ++ .cells k c' :: post
  | [] => by
    show ABox.cells k c' :: merge post (deads post.length) (deads post.length) = _
    rw [merge_deads]; rfl
  | x :: pre => by
    show x :: merge (pre ++ .cells k c :: post) (deads pre.length ++ .cells k c :: deads post.length) (deads pre.length ++ .cells k c' :: deads post.length) = _
    rw [merge_at c c' k post pre]; rfl
theorem ACall.drw {α : Type} {f : Nat} {vs args : List AV} {j : Nat} {l : List Int} {i h : Int} {b : List ABox} {fr : Fr} {k : AV → List ABox → Fr → Prop} {Q : α → Prop} {X : α → Tr} (hD : Drw mo P f args Q X) (hb : b[j]? = some (curB l i h)) (hi : CurOk l i)
    (hv : SeesL SeesC vs (.bptr j 0 :: args)) (ha : noRef.noRefL args = true) (hk : ∀ a i' h', CurOk l i' → Q a → k (Abs.old (X a)) (b.set j (curB l i' h')) fr) : ACall (Kn mo P) true f vs b fr k := by
  have hj := getElem?_lt hb
  have eb : b = b.take j ++ curB l i h :: b.drop (j + 1) := by
    have h1 : b[j] = curB l i h := by rw [List.getElem?_eq_getElem hj] at hb; exact Option.some.inj hb
    rw [← h1, ← List.drop_eq_getElem_cons hj, List.take_append_drop]
  have el : (b.take j).length = j := by rw [List.length_take]; omega
  have es : ∀ c, b.set j c = b.take j ++ c :: b.drop (j + 1) := fun c => by rw [List.set_eq_take_append_cons_drop, if_pos hj]
  rw [noRefL_all, List.all_eq_true] at ha
  have hL := (hD l i h hi).at j (b.drop (j + 1)).length (by intro h; cases h) ha (curB_ref l i h) (by
    rintro r b fr ⟨a, i', h', _, rfl, _, _, rfl⟩
    exact ⟨noRef_old _, _, rfl, curB_ref l i' h'⟩)
  have hlen := lends_at _ .var (curB_tk l i h) (b.drop (j + 1)) (b.take j)
  rw [el] at hlen
  refine .lent rfl _ _ _ hL (Eq.mp (congrArg (fun x => Lends x (Abs.deads j ++ curB l i h :: Abs.deads (b.drop (j + 1)).length)) eb.symm) hlen) hv ?_
  rintro _ _ _ ⟨_, ⟨a, i', h', h1, h2, rfl, h3, rfl⟩, rfl⟩
  cases h2
  rw [shiftK_old, List.append_nil]
  have em := merge_at [AV.list none (rows tByte l), .val (.int .i64 i), .val (.int .i64 h)] [AV.list none (rows tByte l), .val (.int .i64 i'), .val (.int .i64 h')] .var (b.drop (j + 1)) (b.take j)
  rw [el] at em
  have e2 : merge b (Abs.deads j ++ curB l i h :: Abs.deads (b.drop (j + 1)).length) (Abs.deads j ++ curB l i' h' :: Abs.deads (b.drop (j + 1)).length) = b.set j (curB l i' h') := by
    rw [es]
    refine Eq.trans ?_ em
    show merge b _ _ = merge (b.take j ++ curB l i h :: b.drop (j + 1)) _ _
    rw [← eb]; rfl
  rw [e2]; exact hk a i' h' h1 h3
/-- .. and what is handed back is the caller's own, in slices G a -/
structure DrwK {α : Type} (mo : Bool) (P : Program) (f : Nat) (args : List AV) (Q : α → Prop) (Z : Nat → α → AV) (G : α → Fr) : Prop where
  sh : ∀ n a, shiftK n (Z 0 a) = Z n a
  nr : ∀ a, noRef (Z 0 a) = true
  lent : ∀ l i h, CurOk l i → Lent mo P f [curB l i h] (.bptr 0 0 :: args) (fun r b1 f1 => ∃ a i' h', CurOk l i' ∧ b1 = [curB l i' h'] ∧ f1 = G a ∧ Q a ∧ r = Z 0 a)
def DrwEndK {α : Type} (l : List Int) (Q : α → Prop) (Z : Nat → α → AV) (G : α → Fr) (r : AV) (b1 : List ABox) (fr : Fr) : Prop := ∃ a i' h' bs, CurOk l i' ∧ b1 = curB l i' h' :: bs ∧ Q a ∧ r = Z 0 a ∧ fr = G a
theorem DrwEndK.at {α : Type} {l : List Int} {Q : α → Prop} {Z : Nat → α → AV} {G : α → Fr} {r : AV} {i h : Int} {bs : List ABox} {fr : Fr} (a : α) (hc : CurOk l i) (hq : Q a) (he : r = Z 0 a) (hf : fr = G a) : DrwEndK l Q Z G r (curB l i h :: bs) fr := ⟨a, i, h, bs, hc, rfl, hq, he, hf⟩
theorem Lent.trimK {f : Nat} {b0 : List ABox} {args : List AV} {Φ Ψ : AV → List ABox → Fr → Prop} (h : Lent mo P f b0 args Φ)
    (hΦ : ∀ r b fr, Φ r b fr → Ψ r (b.take b0.length) fr ∧ inB b0.length r ∧ ∀ x ∈ b.take b0.length, ∀ k cs, x = .cells k cs → inB.inBL b0.length cs) : Lent mo P f b0 args Ψ := by
  rw [Lent_eq] at *
  refine ⟨h.1, fun w F vs box0 q a b c d e g => (h.2 w F vs box0 q a b c d e g).mono ?_⟩
  rintro en w' ⟨v, F', box1, tok, frs, r, b1, h1, h2, h3, h4, h5, h6, h7, h8, h9, h10, h11, h12, h13, h14, h15, h16⟩
  obtain ⟨k1, k2, k3⟩ := hΦ _ _ _ h1
  have hle : box0.length ≤ box1.length := by
    rcases Nat.lt_or_ge box1.length box0.length with h | h
    · have := getElem?_lt (h6 box1.length _ (List.getElem?_eq_getElem h)); omega
    · exact h
  have lv : ∀ j, j < b0.length → live (b1.take b0.length) j → live b1 j := fun j hj hl hd => hl (by rw [List.getElem?_take, if_pos hj]; exact hd)
  refine ⟨v, F', box1.take b0.length, tok, frs, _, b1.take b0.length, k1, h2, h3, h4, h5, fun j d hj => ?_, by rw [List.length_take, List.length_take, h7], fun j b c hj hb => ?_, fun j b c hj hl => ?_, fun i j b c c' hi hj li lj => ?_, fun j d x hj hx => ?_, h12, h13, h14, fun k b j c hk hj => ?_, h16.take k2⟩
  · rw [List.getElem?_take, if_pos (by have := getElem?_lt hj; omega)]; exact h6 j d hj
  · have := (take_get hb).2; omega
  · obtain ⟨e1, e2⟩ := take_get hj
    exact h9 j b c e1 (lv j e2 hl)
  · obtain ⟨e1, e2⟩ := take_get hi
    obtain ⟨e3, e4⟩ := take_get hj
    exact h10 i j b c c' e1 e3 (lv i e2 li) (lv j e4 lj)
  · obtain ⟨e1, e2⟩ := take_get hj
    obtain ⟨e3, e4⟩ := take_get hx
    intro hor
    exact (h11 j d x e1 e3 hor).take (fun k cs he => k3 x (List.mem_of_getElem? hx) k cs he)
  · obtain ⟨e1, e2⟩ := take_get hj
    exact fun hl => h15 k b j c hk e1 (lv j e2 hl)
theorem inB_noRef (m : Nat) : ∀ {x : AV}, noRef x = true → inB m x
  | .bptr _ _, h => nomatch h
  | .bsl _ _, h => nomatch h
  | .bmap _, h => nomatch h
  | .tag _ x, h => inB_noRef m (x := x) h
  | .agg cs, h => inB_noRefL m (cs := cs) h
  | .tup cs, h => inB_noRefL m (cs := cs) h
  | .clo _ a b, h => by
    have h : (noRef.noRefL a && noRef.noRefL b) = true := h
    rw [Bool.and_eq_true] at h
    exact ⟨inB_noRefL m h.1, inB_noRefL m h.2⟩
  | .cond _ _, h => nomatch h
  | .any, _ => trivial
  | .val _, _ => trivial
  | .str _, _ => trivial
  | .list _ _, _ => trivial
  | .rptr _, _ => trivial
where inB_noRefL (m : Nat) : ∀ {cs : List AV}, noRef.noRefL cs = true → inB.inBL m cs
  | [], _ => trivial
  | c :: cs, h => by
    have h : (noRef c && noRef.noRefL cs) = true := h
    rw [Bool.and_eq_true] at h
    exact ⟨inB_noRef m h.1, inB_noRefL m h.2⟩
theorem DrwK.of {α : Type} {f : Nat} {args : List AV} {Q : α → Prop} {Z : Nat → α → AV} {G : α → Fr} (sh : ∀ n a, shiftK n (Z 0 a) = Z n a) (nr : ∀ a, noRef (Z 0 a) = true) (h : ∀ l i h, CurOk l i → Lent mo P f [curB l i h] (.bptr 0 0 :: args) (DrwEndK l Q Z G)) : DrwK mo P f args Q Z G :=
  ⟨sh, nr, fun l i h0 hi => (h l i h0 hi).trimK (by
    rintro r b fr ⟨a, i', h', bs, h1, rfl, h2, rfl, rfl⟩
    refine ⟨⟨a, i', h', h1, rfl, rfl, h2, rfl⟩, inB_noRef _ (nr a), fun x hx k cs he => ?_⟩
    rw [List.mem_singleton.1 hx] at he
    exact curB_in l i' h' _ k cs he)⟩
/-- a draw by a code -/
def Drt {α : Type} (mo : Bool) (P : Program) (f : Nat) (Q : α → Prop) (X : α → Tr) : Prop :=
  ∀ l i, CurOk l i → Lent mo P f [] [.list none (rows tByte l)] (fun r b1 f1 => ∃ a, b1 = [] ∧ f1 = [] ∧ Q a ∧ r = old (X a))
theorem Drt.of {α : Type} {f : Nat} {Q : α → Prop} {X : α → Tr} (h : ∀ l i, CurOk l i → Lent mo P f [] [.list none (rows tByte l)] (fun r _ _ => ∃ a, Q a ∧ Sees0 r (old (X a)))) : Drt mo P f Q X := fun l i hi =>
  (h l i hi).trim (by
    rintro r b fr ⟨a, h2, h3⟩
    exact ⟨_, ⟨a, by simp, rfl, h2, rfl⟩, h3, fun x hx => by simp at hx⟩)
theorem FinalC.hide {Φ : AV → List ABox → Fr → Prop} {r : AV} {b : List ABox} {f : Fr} (hk : Φ r (Abs.deads b.length) f) : FinalC Φ r b f := ⟨_, Lends.deads b, hk⟩
theorem ACall.drt {α : Type} {f : Nat} {vs : List AV} {l : List Int} {i : Int} {b : List ABox} {fr : Fr} {k : AV → List ABox → Fr → Prop} {Q : α → Prop} {X : α → Tr} (hD : Drt mo P f Q X) (hi : CurOk l i) (hv : SeesL Sees0 vs [.list none (rows tByte l)])
    (hk : ∀ a, Q a → k (Abs.old (X a)) b fr) : ACall (Kn mo P) true f vs b fr k := by
  refine .lent rfl (Abs.deads b.length) _ _ ((hD l i hi).wide b.length (fun x hx => by rw [List.mem_singleton.1 hx]; exact trivial) (by simp) (by rintro r b fr ⟨_, rfl, _⟩; rfl)) (Lends.deads b) hv.toC ?_
  rintro _ _ _ ⟨_, ⟨a, rfl, rfl, h2, rfl⟩, rfl⟩
  rw [shiftK_old, List.append_nil, List.nil_append, merge_deads]; exact hk a h2
end Abs
end Go.Proofs.YtakojclbmhphnaaDoor
namespace Go.Proofs.YtakojclbmhphnaaDoor
open Abs
theorem and255 (a : BitVec 64) : 0 ≤ IntKind.i64.wrap (((a &&& BitVec.ofInt 64 255).toNat : Nat) : Int) ∧ IntKind.i64.wrap (((a &&& BitVec.ofInt 64 255).toNat : Nat) : Int) < 256 := by
  have h : (a &&& BitVec.ofInt 64 255).toNat ≤ 255 := by
    rw [BitVec.toNat_and]
    exact Nat.and_le_right
  rw [wrap64 (by omega) (by omega)]
  omega
theorem dByte.drw : Drw false Tryd.prog 38 [] (fun n : Int => 0 ≤ n ∧ n < 256) (fun n => .v (.int .i64 n)) := by
  refine Drw.of fun l i h hi => dByte.ofL rfl rfl ?_
  obtain ⟨h0, h1, h2, h3⟩ := id hi
  repeat' first
    | contradiction | exact trivial
    | (conv => whnf
       first | refine Need.mk (fun h => h) ?_ | refine Need.mk rfl ?_ | refine Need.mk ⟨rfl, Nat.le_of_ble_eq_true rfl⟩ ?_ | refine Need.mk (Nat.le_of_ble_eq_true rfl) ?_ | refine Need.fin ?_ | refine Need.mk ?_ ?_ | refine Ix.strsF rfl ?_ | refine Ix.strs rfl ?_ ?_ | refine Cut.strs rfl ?_ ?_ | refine Ix.mapF (fun _ => rfl) ?_ | refine Ix.map (fun _ => rfl) ?_ ?_ | refine Cut.map (fun _ => rfl) ?_ ?_ | refine Fork.yes (by assumption) ?_ | refine Fork.no (by assumption) ?_ | refine Fork.decYes (by omega) ?_ | refine Fork.decNo (by omega) ?_ | refine Fork.dec (fun _ => ?_) (fun _ => ?_) | refine Fork.bne (fun _ => ?_) (fun _ => ?_) | refine Fork.beq (fun _ => ?_) (fun _ => ?_) | refine Fork.seq (fun _ => ?_) (fun _ => ?_) | refine Fork.sne (fun _ => ?_) (fun _ => ?_) | refine Fork.neg (fun _ => ?_) (fun _ => ?_) | refine Fork.mk (fun _ => ?_) (fun _ => ?_) | refine HAlt.mk ?_ ?_ | apply HJoin.mk3 | exact HEnd.mk rfl rfl rfl | refine HEnd.mk ?_ ?_ ?_ | refine Round.mk ?_ | refine NilQ.mk (fun b hb => ?_) | refine forceK_of ?_ | refine forceBx_of ?_ | refine unG_old ?_ | refine unG_gv ?_ | refine Lit.read rfl ?_ | refine LitO.own rfl ?_ | refine FinVal.keep ?_ | refine FinAgg.keep ?_ | refine Final.mk rfl rfl | refine Final.mk ?_ rfl | refine Final.mk ?_ ?_ | refine FinalT.mk ?_ ?_ | refine FinalI.mk ?_ | refine FinalC.cur ?_)
    | refine AV.bool_congr ?_ | refine AV.int_congr ?_ | refine AV.str_congr ?_ | refine AV.list_congr ?_ | with_reducible rfl | refine fr1 ?_ | refine fr2 ?_ ?_
  · refine DrwEnd.at _ ⟨?_, ?_, h2, h3⟩ (and255 _)
    · rw [wrap64 (by omega) (by omega)]; omega
    · rw [wrap64 (by omega) (by omega)]; simp only [length_rows] at *; omega
  · exact DrwEnd.at _ hi (and255 _)
theorem dBelow.drw (n : Int) (hn : n ≤ 9223372036854775807) : Drw false Tryd.prog 27 [.val (.int .i64 n)] (fun r : Int => 0 ≤ r ∧ (r < n ∨ r = 0)) (fun n => .v (.int .i64 n)) := by
  refine Drw.of fun l i h hi => dBelow.ofL rfl rfl ?_
  repeat' first
    | contradiction | exact trivial
    | (conv => whnf
       first | refine Need.mk (fun h => h) ?_ | refine Need.mk rfl ?_ | refine Need.mk ⟨rfl, Nat.le_of_ble_eq_true rfl⟩ ?_ | refine Need.mk (Nat.le_of_ble_eq_true rfl) ?_ | refine Need.fin ?_ | refine Need.mk ?_ ?_ | refine Ix.strsF rfl ?_ | refine Ix.strs rfl ?_ ?_ | refine Cut.strs rfl ?_ ?_ | refine Ix.mapF (fun _ => rfl) ?_ | refine Ix.map (fun _ => rfl) ?_ ?_ | refine Cut.map (fun _ => rfl) ?_ ?_ | refine Fork.yes (by assumption) ?_ | refine Fork.no (by assumption) ?_ | refine Fork.decYes (by omega) ?_ | refine Fork.decNo (by omega) ?_ | refine Fork.dec (fun _ => ?_) (fun _ => ?_) | refine Fork.bne (fun _ => ?_) (fun _ => ?_) | refine Fork.beq (fun _ => ?_) (fun _ => ?_) | refine Fork.seq (fun _ => ?_) (fun _ => ?_) | refine Fork.sne (fun _ => ?_) (fun _ => ?_) | refine Fork.neg (fun _ => ?_) (fun _ => ?_) | refine Fork.mk (fun _ => ?_) (fun _ => ?_) | refine HAlt.mk ?_ ?_ | apply HJoin.mk3 | exact HEnd.mk rfl rfl rfl | refine HEnd.mk ?_ ?_ ?_ | refine Round.mk ?_ | refine NilQ.mk (fun b hb => ?_) | refine forceK_of ?_ | refine forceBx_of ?_ | refine unG_old ?_ | refine unG_gv ?_ | refine Lit.read rfl ?_ | refine LitO.own rfl ?_ | refine FinVal.keep ?_ | refine FinAgg.keep ?_ | refine Final.mk rfl rfl | refine Final.mk ?_ rfl | refine Final.mk ?_ ?_ | refine FinalT.mk ?_ ?_ | refine FinalI.mk ?_ | refine FinalC.cur ?_ | refine ACall.drw (dByte.drw) rfl (by assumption) (by repeat' first | exact SeesL.nil | refine SeesL.cons ?_ ?_ | exact Or.inl ⟨rfl, rfl⟩ | exact Or.inr (Sees0.str _) | exact Or.inr (Sees0.val _) | exact Or.inr (Sees0.olds _ _) | exact Or.inr (Sees0.old _) | exact Or.inr (Sees0.oldagg _) | exact Or.inr (Sees0.list rfl) | exact Or.inr Sees0.nil) rfl (fun a i' h' hi' hq => ?_))
    | refine AV.bool_congr ?_ | refine AV.int_congr ?_ | refine AV.str_congr ?_ | refine AV.list_congr ?_ | with_reducible rfl | refine fr1 ?_ | refine fr2 ?_ ?_
  · exact DrwEnd.at _ (by assumption) ⟨Int.le_refl _, .inr rfl⟩
  · refine DrwEnd.at _ (by assumption) ⟨Int.tmod_nonneg _ hq.1, .inl (Int.tmod_lt_of_pos _ (by omega))⟩
  · rename_i a1 _ _ _ q1 a2 _ _ _ q2
    have e : IntKind.i64.wrap (IntKind.i64.wrap (IntKind.i64.wrap (a1 * 65536) + IntKind.i64.wrap (a2 * 256)) + a) = a1 * 65536 + a2 * 256 + a := by
      rw [wrap64 (x := a1 * 65536) (by omega) (by omega), wrap64 (x := a2 * 256) (by omega) (by omega), wrap64 (x := a1 * 65536 + a2 * 256) (by omega) (by omega), wrap64 (by omega) (by omega)]
    refine DrwEnd.at _ (by assumption) ⟨Int.tmod_nonneg _ ?_, .inl (Int.tmod_lt_of_pos _ (by omega))⟩
    rw [e]; omega
theorem dOnce.drw (n : Int) (hn : n ≤ 9223372036854775807) : Drw false Tryd.prog 25 [.val (.int .i64 n)] (fun _ : Bool => True) (fun b => .v (.bool b)) := by
  refine Drw.of fun l i h hi => dOnce.ofL rfl rfl ?_
  have hd := dBelow.drw n hn
  repeat' first
    | contradiction | exact trivial
    | (conv => whnf
       first | refine Need.mk (fun h => h) ?_ | refine Need.mk rfl ?_ | refine Need.mk ⟨rfl, Nat.le_of_ble_eq_true rfl⟩ ?_ | refine Need.mk (Nat.le_of_ble_eq_true rfl) ?_ | refine Need.fin ?_ | refine Need.mk ?_ ?_ | refine Ix.strsF rfl ?_ | refine Ix.strs rfl ?_ ?_ | refine Cut.strs rfl ?_ ?_ | refine Ix.mapF (fun _ => rfl) ?_ | refine Ix.map (fun _ => rfl) ?_ ?_ | refine Cut.map (fun _ => rfl) ?_ ?_ | refine Fork.yes (by assumption) ?_ | refine Fork.no (by assumption) ?_ | refine Fork.decYes (by omega) ?_ | refine Fork.decNo (by omega) ?_ | refine Fork.dec (fun _ => ?_) (fun _ => ?_) | refine Fork.bne (fun _ => ?_) (fun _ => ?_) | refine Fork.beq (fun _ => ?_) (fun _ => ?_) | refine Fork.seq (fun _ => ?_) (fun _ => ?_) | refine Fork.sne (fun _ => ?_) (fun _ => ?_) | refine Fork.neg (fun _ => ?_) (fun _ => ?_) | refine Fork.mk (fun _ => ?_) (fun _ => ?_) | refine HAlt.mk ?_ ?_ | apply HJoin.mk3 | exact HEnd.mk rfl rfl rfl | refine HEnd.mk ?_ ?_ ?_ | refine Round.mk ?_ | refine NilQ.mk (fun b hb => ?_) | refine forceK_of ?_ | refine forceBx_of ?_ | refine unG_old ?_ | refine unG_gv ?_ | refine Lit.read rfl ?_ | refine LitO.own rfl ?_ | refine FinVal.keep ?_ | refine FinAgg.keep ?_ | refine Final.mk rfl rfl | refine Final.mk ?_ rfl | refine Final.mk ?_ ?_ | refine FinalT.mk ?_ ?_ | refine FinalI.mk ?_ | refine FinalC.cur ?_ | refine ACall.drw (hd) rfl (by assumption) (by repeat' first | exact SeesL.nil | refine SeesL.cons ?_ ?_ | exact Or.inl ⟨rfl, rfl⟩ | exact Or.inr (Sees0.str _) | exact Or.inr (Sees0.val _) | exact Or.inr (Sees0.olds _ _) | exact Or.inr (Sees0.old _) | exact Or.inr (Sees0.oldagg _) | exact Or.inr (Sees0.list rfl) | exact Or.inr Sees0.nil) rfl (fun a i' h' hi' hq => ?_))
    | refine AV.bool_congr ?_ | refine AV.int_congr ?_ | refine AV.str_congr ?_ | refine AV.list_congr ?_ | with_reducible rfl | refine fr1 ?_ | refine fr2 ?_ ?_
  exact DrwEnd.at _ (by assumption) trivial
theorem getD_in {α : Type} {xs : List α} {n : Int} (d : α) (h0 : xs ≠ []) (h : 0 ≤ n ∧ (n < xs.length ∨ n = 0)) : xs.getD n.toNat d ∈ xs := by
  have hp := List.length_pos_iff.2 h0
  have hn : n.toNat < xs.length := by omega
  simp [List.getD, hn]
theorem dInt.drw (xs : List Int) (h0 : xs ≠ []) (h1 : xs.length ≤ 256) : Drw false Tryd.prog 37 [.list none (rows Ty.int xs)] (fun n : Int => n ∈ xs) (fun n => .v (.int .i64 n)) := by
  have hp := List.length_pos_iff.2 h0
  refine Drw.of fun l i h hi => dInt.ofL rfl rfl ?_
  have hd := dBelow.drw ((rows Ty.int xs).length : Nat) (by rw [length_rows]; omega)
  repeat' first
    | contradiction | exact trivial
    | (conv => whnf
       first | refine Need.mk (fun h => h) ?_ | refine Need.mk rfl ?_ | refine Need.mk ⟨rfl, Nat.le_of_ble_eq_true rfl⟩ ?_ | refine Need.mk (Nat.le_of_ble_eq_true rfl) ?_ | refine Need.fin ?_ | refine Need.mk ?_ ?_ | refine Ix.strsF rfl ?_ | refine Ix.strs rfl ?_ ?_ | refine Cut.strs rfl ?_ ?_ | refine Ix.mapF (fun _ => rfl) ?_ | refine Ix.map (fun _ => rfl) ?_ ?_ | refine Cut.map (fun _ => rfl) ?_ ?_ | refine Fork.yes (by assumption) ?_ | refine Fork.no (by assumption) ?_ | refine Fork.decYes (by omega) ?_ | refine Fork.decNo (by omega) ?_ | refine Fork.dec (fun _ => ?_) (fun _ => ?_) | refine Fork.bne (fun _ => ?_) (fun _ => ?_) | refine Fork.beq (fun _ => ?_) (fun _ => ?_) | refine Fork.seq (fun _ => ?_) (fun _ => ?_) | refine Fork.sne (fun _ => ?_) (fun _ => ?_) | refine Fork.neg (fun _ => ?_) (fun _ => ?_) | refine Fork.mk (fun _ => ?_) (fun _ => ?_) | refine HAlt.mk ?_ ?_ | apply HJoin.mk3 | exact HEnd.mk rfl rfl rfl | refine HEnd.mk ?_ ?_ ?_ | refine Round.mk ?_ | refine NilQ.mk (fun b hb => ?_) | refine forceK_of ?_ | refine forceBx_of ?_ | refine unG_old ?_ | refine unG_gv ?_ | refine Lit.read rfl ?_ | refine LitO.own rfl ?_ | refine FinVal.keep ?_ | refine FinAgg.keep ?_ | refine Final.mk rfl rfl | refine Final.mk ?_ rfl | refine Final.mk ?_ ?_ | refine FinalT.mk ?_ ?_ | refine FinalI.mk ?_ | refine FinalC.cur ?_ | refine ACall.drw (hd) rfl (by assumption) (by repeat' first | exact SeesL.nil | refine SeesL.cons ?_ ?_ | exact Or.inl ⟨rfl, rfl⟩ | exact Or.inr (Sees0.str _) | exact Or.inr (Sees0.val _) | exact Or.inr (Sees0.olds _ _) | exact Or.inr (Sees0.old _) | exact Or.inr (Sees0.oldagg _) | exact Or.inr (Sees0.list rfl) | exact Or.inr Sees0.nil) rfl (fun a i' h' hi' hq => ?_))
    | refine AV.bool_congr ?_ | refine AV.int_congr ?_ | refine AV.str_congr ?_ | refine AV.list_congr ?_ | with_reducible rfl | refine fr1 ?_ | refine fr2 ?_ ?_
  all_goals try simp only [length_rows] at *
  exact DrwEnd.at _ (by assumption) (getD_in _ h0 hq)
theorem dStr.drw (xs : List Str) (h0 : xs ≠ []) (h1 : xs.length ≤ 256) : Drw false Tryd.prog 40 [.list none (strs xs)] (fun n : Str => n ∈ xs) (fun n => .s n) := by
  have hp := List.length_pos_iff.2 h0
  refine Drw.of fun l i h hi => dStr.ofL rfl rfl ?_
  have hd := dBelow.drw ((strs xs).length : Nat) (by rw [length_strs]; omega)
  repeat' first
    | contradiction | exact trivial
    | (conv => whnf
       first | refine Need.mk (fun h => h) ?_ | refine Need.mk rfl ?_ | refine Need.mk ⟨rfl, Nat.le_of_ble_eq_true rfl⟩ ?_ | refine Need.mk (Nat.le_of_ble_eq_true rfl) ?_ | refine Need.fin ?_ | refine Need.mk ?_ ?_ | refine Ix.strsF rfl ?_ | refine Ix.strs rfl ?_ ?_ | refine Cut.strs rfl ?_ ?_ | refine Ix.mapF (fun _ => rfl) ?_ | refine Ix.map (fun _ => rfl) ?_ ?_ | refine Cut.map (fun _ => rfl) ?_ ?_ | refine Fork.yes (by assumption) ?_ | refine Fork.no (by assumption) ?_ | refine Fork.decYes (by omega) ?_ | refine Fork.decNo (by omega) ?_ | refine Fork.dec (fun _ => ?_) (fun _ => ?_) | refine Fork.bne (fun _ => ?_) (fun _ => ?_) | refine Fork.beq (fun _ => ?_) (fun _ => ?_) | refine Fork.seq (fun _ => ?_) (fun _ => ?_) | refine Fork.sne (fun _ => ?_) (fun _ => ?_) | refine Fork.neg (fun _ => ?_) (fun _ => ?_) | refine Fork.mk (fun _ => ?_) (fun _ => ?_) | refine HAlt.mk ?_ ?_ | apply HJoin.mk3 | exact HEnd.mk rfl rfl rfl | refine HEnd.mk ?_ ?_ ?_ | refine Round.mk ?_ | refine NilQ.mk (fun b hb => ?_) | refine forceK_of ?_ | refine forceBx_of ?_ | refine unG_old ?_ | refine unG_gv ?_ | refine Lit.read rfl ?_ | refine LitO.own rfl ?_ | refine FinVal.keep ?_ | refine FinAgg.keep ?_ | refine Final.mk rfl rfl | refine Final.mk ?_ rfl | refine Final.mk ?_ ?_ | refine FinalT.mk ?_ ?_ | refine FinalI.mk ?_ | refine FinalC.cur ?_ | refine ACall.drw (hd) rfl (by assumption) (by repeat' first | exact SeesL.nil | refine SeesL.cons ?_ ?_ | exact Or.inl ⟨rfl, rfl⟩ | exact Or.inr (Sees0.str _) | exact Or.inr (Sees0.val _) | exact Or.inr (Sees0.olds _ _) | exact Or.inr (Sees0.old _) | exact Or.inr (Sees0.oldagg _) | exact Or.inr (Sees0.list rfl) | exact Or.inr Sees0.nil) rfl (fun a i' h' hi' hq => ?_))
    | refine AV.bool_congr ?_ | refine AV.int_congr ?_ | refine AV.str_congr ?_ | refine AV.list_congr ?_ | with_reducible rfl | refine fr1 ?_ | refine fr2 ?_ ?_
  all_goals try simp only [length_strs] at *
  exact DrwEnd.at _ (by assumption) (getD_in _ h0 hq)
def words : List Str := [[97], [98], [111, 110], [55], [49, 48], [57, 57, 57, 57], [49, 48, 48, 48, 48], [48, 48, 55], [48], [], [65], [63, 120], [63, 63], [63], [97, 98, 99, 100, 101, 102, 103, 104], [97, 98, 99, 100, 101, 102, 103, 104, 105], [63, 97, 98, 99, 100, 101, 102, 103, 104], [97, 45, 98], [120, 49], [49, 120], [45, 51]]
theorem dWord.drw : Drw false Tryd.prog 30 [] (fun s : Str => s ∈ words) (fun s => .s s) := by
  refine Drw.of fun l i h hi => dWord.ofL rfl rfl ?_
  have hd := dStr.drw words (by decide) (by decide)
  repeat' first
    | contradiction | exact trivial
    | (conv => whnf
       first | refine Need.mk (fun h => h) ?_ | refine Need.mk rfl ?_ | refine Need.mk ⟨rfl, Nat.le_of_ble_eq_true rfl⟩ ?_ | refine Need.mk (Nat.le_of_ble_eq_true rfl) ?_ | refine Need.fin ?_ | refine Need.mk ?_ ?_ | refine Ix.strsF rfl ?_ | refine Ix.strs rfl ?_ ?_ | refine Cut.strs rfl ?_ ?_ | refine Ix.mapF (fun _ => rfl) ?_ | refine Ix.map (fun _ => rfl) ?_ ?_ | refine Cut.map (fun _ => rfl) ?_ ?_ | refine Fork.yes (by assumption) ?_ | refine Fork.no (by assumption) ?_ | refine Fork.decYes (by omega) ?_ | refine Fork.decNo (by omega) ?_ | refine Fork.dec (fun _ => ?_) (fun _ => ?_) | refine Fork.bne (fun _ => ?_) (fun _ => ?_) | refine Fork.beq (fun _ => ?_) (fun _ => ?_) | refine Fork.seq (fun _ => ?_) (fun _ => ?_) | refine Fork.sne (fun _ => ?_) (fun _ => ?_) | refine Fork.neg (fun _ => ?_) (fun _ => ?_) | refine Fork.mk (fun _ => ?_) (fun _ => ?_) | refine HAlt.mk ?_ ?_ | apply HJoin.mk3 | exact HEnd.mk rfl rfl rfl | refine HEnd.mk ?_ ?_ ?_ | refine Round.mk ?_ | refine NilQ.mk (fun b hb => ?_) | refine forceK_of ?_ | refine forceBx_of ?_ | refine unG_old ?_ | refine unG_gv ?_ | refine Lit.read rfl ?_ | refine LitO.own rfl ?_ | refine FinVal.keep ?_ | refine FinAgg.keep ?_ | refine Final.mk rfl rfl | refine Final.mk ?_ rfl | refine Final.mk ?_ ?_ | refine FinalT.mk ?_ ?_ | refine FinalI.mk ?_ | refine FinalC.cur ?_ | refine ACall.drw (hd) rfl (by assumption) (by repeat' first | exact SeesL.nil | refine SeesL.cons ?_ ?_ | exact Or.inl ⟨rfl, rfl⟩ | exact Or.inr (Sees0.str _) | exact Or.inr (Sees0.val _) | exact Or.inr (Sees0.olds _ _) | exact Or.inr (Sees0.old _) | exact Or.inr (Sees0.oldagg _) | exact Or.inr (Sees0.list rfl) | exact Or.inr Sees0.nil) rfl (fun a i' h' hi' hq => ?_))
    | refine AV.bool_congr ?_ | refine AV.int_congr ?_ | refine AV.str_congr ?_ | refine AV.list_congr ?_ | with_reducible rfl | refine fr1 ?_ | refine fr2 ?_ ?_
  exact DrwEnd.at _ (by assumption) (by assumption)
theorem word_len : ∀ s ∈ words, s.length ≤ 10 := by decide
/-- a new cursor -/
def hNext (l : List Int) (a : Nat × Int) : Int := IntKind.i64.wrap ((((BitVec.ofInt 64 (IntKind.i64.wrap (IntKind.i64.wrap (IntKind.i64.wrap (a.2 * 167) + IntKind.i64.wrap (l.getD (a.1 : Int).toNat default)) + 29))) &&& BitVec.ofInt 64 1073741823).toNat : Nat) : Int)
theorem dNew.ins {mo : Bool} (l : List Int) (i0 : Int) (hl : CurOk l i0) (b : List ABox) (f : Fr) : Abs.Ins mo Tryd.prog 24 b f [.list none (rows tByte l)] (fun r b1 f1 => ∃ i h, r = .bptr b.length 0 ∧ b1 = b ++ [curB l i h] ∧ CurOk l i ∧ f1 = f) := by
  refine dNew.ofI rfl ?_
  obtain ⟨h0, h1, h2, h3⟩ := id hl
  repeat' first
    | contradiction | exact trivial
    | (conv => whnf
       first | refine Need.mk (fun h => h) ?_ | refine Need.mk rfl ?_ | refine Need.mk ⟨rfl, Nat.le_of_ble_eq_true rfl⟩ ?_ | refine Need.mk (Nat.le_of_ble_eq_true rfl) ?_ | refine Need.fin ?_ | refine Need.mk ?_ ?_ | refine Ix.strsF rfl ?_ | refine Ix.strs rfl ?_ ?_ | refine Cut.strs rfl ?_ ?_ | refine Ix.mapF (fun _ => rfl) ?_ | refine Ix.map (fun _ => rfl) ?_ ?_ | refine Cut.map (fun _ => rfl) ?_ ?_ | refine Fork.yes (by assumption) ?_ | refine Fork.no (by assumption) ?_ | refine Fork.decYes (by omega) ?_ | refine Fork.decNo (by omega) ?_ | refine Fork.dec (fun _ => ?_) (fun _ => ?_) | refine Fork.bne (fun _ => ?_) (fun _ => ?_) | refine Fork.beq (fun _ => ?_) (fun _ => ?_) | refine Fork.seq (fun _ => ?_) (fun _ => ?_) | refine Fork.sne (fun _ => ?_) (fun _ => ?_) | refine Fork.neg (fun _ => ?_) (fun _ => ?_) | refine Fork.mk (fun _ => ?_) (fun _ => ?_) | refine HAlt.mk ?_ ?_ | apply HJoin.mk3 | exact HEnd.mk rfl rfl rfl | refine HEnd.mk ?_ ?_ ?_ | refine Round.mk ?_ | refine NilQ.mk (fun b hb => ?_) | refine forceK_of ?_ | refine forceBx_of ?_ | refine unG_old ?_ | refine unG_gv ?_ | refine Lit.read rfl ?_ | refine LitO.own rfl ?_ | refine FinVal.keep ?_ | refine FinAgg.keep ?_ | refine Final.mk rfl rfl | refine Final.mk ?_ rfl | refine Final.mk ?_ ?_ | refine FinalT.mk ?_ ?_ | refine FinalI.mk ?_ | refine FinalC.allA ?_)
    | refine AV.bool_congr ?_ | refine AV.int_congr ?_ | refine AV.str_congr ?_ | refine AV.list_congr ?_ | with_reducible rfl | refine fr1 ?_ | refine fr2 ?_ ?_
  refine ALoop.mk (Nat × Int) (fun a => ⟨[(0, .list none (rows tByte l)), (3, .val (.int .i64 a.2)), (4, .val (.int .i64 a.1))], b, f⟩) (fun a => a.1 ≤ l.length) (fun a => l.length - a.1) ⟨(0, IntKind.i64.wrap (851207 + IntKind.i64.wrap (3 * ((rows tByte l).length : Nat)))), Nat.zero_le _, ?_⟩ (fun a ha => ?_)
  · refine Weak.mk ?_ (List.take_length ..) rfl (Nat.le_refl _) (Or.inl (Nat.le_refl _))
    repeat' first
      | exact trivial
      | refine And.intro ?_ ?_
      | with_reducible rfl
      | refine AV.int_congr ?_
      | refine AV.bool_congr ?_
      | refine AV.str_congr ?_
      | refine AV.list_congr ?_
      | (apply rfl)
  repeat' first
    | contradiction | exact trivial
    | (conv => whnf
       first | refine Need.mk (fun h => h) ?_ | refine Need.mk rfl ?_ | refine Need.mk ⟨rfl, Nat.le_of_ble_eq_true rfl⟩ ?_ | refine Need.mk (Nat.le_of_ble_eq_true rfl) ?_ | refine Need.fin ?_ | refine Need.mk ?_ ?_ | refine Ix.strsF rfl ?_ | refine Ix.strs rfl ?_ ?_ | refine Cut.strs rfl ?_ ?_ | refine Ix.mapF (fun _ => rfl) ?_ | refine Ix.map (fun _ => rfl) ?_ ?_ | refine Cut.map (fun _ => rfl) ?_ ?_ | refine Fork.yes (by assumption) ?_ | refine Fork.no (by assumption) ?_ | refine Fork.decYes (by omega) ?_ | refine Fork.decNo (by omega) ?_ | refine Fork.dec (fun _ => ?_) (fun _ => ?_) | refine Fork.bne (fun _ => ?_) (fun _ => ?_) | refine Fork.beq (fun _ => ?_) (fun _ => ?_) | refine Fork.seq (fun _ => ?_) (fun _ => ?_) | refine Fork.sne (fun _ => ?_) (fun _ => ?_) | refine Fork.neg (fun _ => ?_) (fun _ => ?_) | refine Fork.mk (fun _ => ?_) (fun _ => ?_) | refine HAlt.mk ?_ ?_ | apply HJoin.mk3 | exact HEnd.mk rfl rfl rfl | refine HEnd.mk ?_ ?_ ?_ | refine Round.mk ?_ | refine NilQ.mk (fun b hb => ?_) | refine forceK_of ?_ | refine forceBx_of ?_ | refine unG_old ?_ | refine unG_gv ?_ | refine Lit.read rfl ?_ | refine LitO.own rfl ?_ | refine FinVal.keep ?_ | refine FinAgg.keep ?_ | refine Final.mk rfl rfl | refine Final.mk ?_ rfl | refine Final.mk ?_ ?_ | refine FinalT.mk ?_ ?_ | refine FinalI.mk ?_ | refine FinalC.allA ?_)
    | refine AV.bool_congr ?_ | refine AV.int_congr ?_ | refine AV.str_congr ?_ | refine AV.list_congr ?_ | with_reducible rfl | refine fr1 ?_ | refine fr2 ?_ ?_
  all_goals try simp only [length_rows, Bool.and_eq_true, decide_eq_true_eq] at *
  · refine ⟨(a.1 + 1, hNext l a), ?_, ?_, ?_⟩
    · show a.1 + 1 ≤ l.length
      omega
    · refine Weak.mk ?_ (List.take_length ..) rfl (Nat.le_refl _) (Or.inl (Nat.le_refl _))
      repeat' first
        | exact trivial
        | refine And.intro ?_ ?_
        | with_reducible rfl
        | refine AV.int_congr ?_
        | refine AV.bool_congr ?_
        | refine AV.str_congr ?_
        | refine AV.list_congr ?_
        | (apply rfl)
      rw [wrap64 (by omega) (by omega)]; rfl
    · show l.length - (a.1 + 1) < l.length - a.1
      omega
  · exact ⟨0, a.2, by first | rfl | trivial, by first | rfl | trivial, ⟨Int.le_refl _, by omega, h2, h3⟩, by first | rfl | trivial⟩
theorem Abs.ACall.newC {f : Nat} {l : List Int} {b : List ABox} {fr : Fr} {k : AV → List ABox → Fr → Prop} {mo : Bool} {vs : List AV} (h : Abs.Ins mo Tryd.prog f b fr vs (fun r b1 f1 => ∃ i h, r = .bptr b.length 0 ∧ b1 = b ++ [curB l i h] ∧ CurOk l i ∧ f1 = fr)) (hn : noCond vs = true)
    (hk : ∀ i h, CurOk l i → k (.bptr b.length 0) (b ++ [curB l i h]) fr) : ACall (Kn mo Tryd.prog) true f vs b fr k :=
  .ins rfl _ h hn (by rintro _ _ _ ⟨i, q, rfl, rfl, hi, rfl⟩; exact hk i q hi)
end Go.Proofs.YtakojclbmhphnaaDoor
namespace Go.Proofs.YtakojclbmhphnaaDoor
open Abs
theorem pIsNumber.ret (x : Str) (hx : x.length ≤ 1048576) : pIsNumber.Ret [.str x] (.val (.bool (parseF x).2)) [] := by
  refine pIsNumber.of rfl ?_
  repeat' first
    | contradiction | exact trivial
    | (conv => whnf
       first | refine Need.mk (fun h => h) ?_ | refine Need.mk rfl ?_ | refine Need.mk ⟨rfl, Nat.le_of_ble_eq_true rfl⟩ ?_ | refine Need.mk (Nat.le_of_ble_eq_true rfl) ?_ | refine Need.fin ?_ | refine Need.mk ?_ ?_ | refine Ix.strsF rfl ?_ | refine Ix.strs rfl ?_ ?_ | refine Cut.strs rfl ?_ ?_ | refine Ix.mapF (fun _ => rfl) ?_ | refine Ix.map (fun _ => rfl) ?_ ?_ | refine Cut.map (fun _ => rfl) ?_ ?_ | refine Fork.yes (by assumption) ?_ | refine Fork.no (by assumption) ?_ | refine Fork.decYes (by omega) ?_ | refine Fork.decNo (by omega) ?_ | refine Fork.dec (fun _ => ?_) (fun _ => ?_) | refine Fork.bne (fun _ => ?_) (fun _ => ?_) | refine Fork.beq (fun _ => ?_) (fun _ => ?_) | refine Fork.seq (fun _ => ?_) (fun _ => ?_) | refine Fork.sne (fun _ => ?_) (fun _ => ?_) | refine Fork.neg (fun _ => ?_) (fun _ => ?_) | refine Fork.mk (fun _ => ?_) (fun _ => ?_) | refine HAlt.mk ?_ ?_ | apply HJoin.mk3 | exact HEnd.mk rfl rfl rfl | refine HEnd.mk ?_ ?_ ?_ | refine Round.mk ?_ | refine NilQ.mk (fun b hb => ?_) | refine forceK_of ?_ | refine forceBx_of ?_ | refine unG_old ?_ | refine unG_gv ?_ | refine Lit.read rfl ?_ | refine LitO.own rfl ?_ | refine FinVal.keep ?_ | refine FinAgg.keep ?_ | refine Final.mk rfl rfl | refine Final.mk ?_ rfl | refine Final.mk ?_ ?_ | refine FinalT.mk ?_ ?_ | refine FinalI.mk ?_ | refine FinalC.allA ?_ | refine ACall.scalA _ _ (pParseInt.ret _ ?_) rfl ?_ | refine AQCall.mkA _ _ (fun hg => pParseInt.ret _ ?_) rfl ?_ | refine AGCall.mkA _ _ (fun hg => pParseInt.ret _ ?_) rfl ?_)
    | refine AV.bool_congr ?_ | refine AV.int_congr ?_ | refine AV.str_congr ?_ | refine AV.list_congr ?_ | with_reducible rfl | refine fr1 ?_ | refine fr2 ?_ ?_
  all_goals exact hx
def hasP (x p : Str) : Bool := decide ((p.length : Int) ≤ x.length) && x.take p.length == p
def cutP (x p : Str) : Str := if hasP x p then x.drop p.length else x
theorem slHasPrefix.ret (x p : Str) : slHasPrefix.Ret [.str x, .str p] (.val (.bool (hasP x p))) [] := by
  refine slHasPrefix.of rfl ?_
  repeat' first
    | (conv => whnf
       first | refine Need.mk (fun h => h) ?_ | refine Need.mk rfl ?_ | refine Need.fin ?_ | refine LitO.own rfl ?_ | refine FinVal.keep ?_ | refine Final.mk rfl rfl)
  all_goals simp [hasP]
theorem slCutPrefix.ret (x p : Str) : slCutPrefix.Ret [.str x, .str p] (.tup [.str (cutP x p), .val (.bool (hasP x p))]) [] := by
  refine slCutPrefix.of rfl ?_
  repeat' first
    | (conv => whnf
       first | refine Need.mk ?_ ?_ | refine Fork.neg (fun _ => ?_) (fun _ => ?_) | refine FinVal.keep ?_ | refine Final.mk ?_ rfl | refine ACall.scalA _ _ (slHasPrefix.ret _ _) rfl ?_)
  · rename_i h; simp [cutP, h]
  all_goals first
    | (rename_i h; simp only [hasP, Bool.and_eq_true, decide_eq_true_eq] at h; simp; omega)
    | (rename_i h; simp [cutP, h]; done)
    | (rename_i h; simp only [hasP, Bool.and_eq_true, decide_eq_true_eq] at h; omega)
theorem cutPrefix.ret (x p : Str) : cutPrefix.Ret [.str x, .str p] (.tup [.str (cutP x p), .val (.bool (hasP x p))]) [] := by
  refine cutPrefix.of rfl ?_
  repeat' first
    | (conv => whnf
       first | refine FinVal.keep ?_ | refine Final.mk rfl rfl | refine ACall.scalA _ _ (slCutPrefix.ret _ _) rfl ?_)
theorem var_eq (x : Str) : (hasP x [63] && atomF (cutP x [63])) = varF x := by
  match x with
  | [] => rfl
  | [c] =>
    have : varF [c] = false := by simp [varF]
    rw [this]
    cases h : hasP [c] [63] with
    | false => rfl
    | true => simp [cutP, h, atomF]
  | c :: d :: x =>
    by_cases hc : c = 63
    · subst hc
      have h : hasP (63 :: d :: x) [63] = true := by simp [hasP]; omega
      simp [h, cutP, varF]; omega
    · have h : hasP (c :: d :: x) [63] = false := by simp [hasP, hc]
      have h2 : ¬ (c.toNat : Int) = 63 := fun e => hc (by
        have : c.toNat = 63 := by omega
        rw [← UInt8.ofNat_toNat (x := c), this]; rfl)
      simp [h, varF, h2]
theorem pIsVar.ret (x : Str) (hx : x.length ≤ 1048576) : pIsVar.Ret [.str x] (.val (.bool (varF x))) [] := by
  refine pIsVar.of rfl ?_
  repeat' first
    | (conv => whnf
       first | refine Need.mk (fun h => h) ?_ | refine FinVal.keep ?_ | refine Final.mk ?_ rfl | refine AGCall.mkA _ _ (fun hg => pIsAtom.ret _ ?_) rfl ?_ | refine ACall.scalA _ _ (cutPrefix.ret _ _) rfl ?_)
    | refine AV.bool_congr ?_
  · simp only [cutP]; split <;> simp <;> omega
  · exact var_eq x
theorem pIsTerm.ret (x : Str) (hx : x.length ≤ 1048576) : pIsTerm.Ret [.str x] (.val (.bool (atomF x || varF x))) [] := by
  refine pIsTerm.of rfl ?_
  repeat' first
    | (conv => whnf
       first | refine Need.mk (fun h => h) ?_ | refine FinVal.keep ?_ | refine Final.mk rfl rfl | refine ACall.scalA _ _ (pIsAtom.ret _ ?_) rfl ?_ | refine AGCall.mkA _ _ (fun hg => pIsVar.ret _ ?_) rfl ?_)
  all_goals exact hx
end Go.Proofs.YtakojclbmhphnaaDoor
namespace Go.Proofs.YtakojclbmhphnaaDoor
open Abs
theorem lawExactFormatInt.ret (n : Int) (hn : Ty.int.bd n) : lawExactFormatInt.Ret [.val (.int .i64 n)] (.val (.bool true)) [] := by
  refine lawExactFormatInt.of rfl ?_
  have hb : (Lit.int .i64 n).wf = true := hn
  simp only [Lit.wf, Bool.and_eq_true, decide_eq_true_eq] at hb
  have h0 : IntKind.i64.min = -9223372036854775808 := rfl
  have h1 : IntKind.i64.max = 9223372036854775807 := rfl
  have e1 := sFormatInt.all n (by omega) (by omega)
  have e2 := pFormatInt.all n (by omega) (by omega)
  repeat' first
    | contradiction | exact trivial
    | (conv => whnf
       first | refine Need.mk (fun h => h) ?_ | refine Need.mk rfl ?_ | refine Need.mk ⟨rfl, Nat.le_of_ble_eq_true rfl⟩ ?_ | refine Need.mk (Nat.le_of_ble_eq_true rfl) ?_ | refine Need.fin ?_ | refine Need.mk ?_ ?_ | refine Ix.strsF rfl ?_ | refine Ix.strs rfl ?_ ?_ | refine Cut.strs rfl ?_ ?_ | refine Ix.mapF (fun _ => rfl) ?_ | refine Ix.map (fun _ => rfl) ?_ ?_ | refine Cut.map (fun _ => rfl) ?_ ?_ | refine Fork.yes (by assumption) ?_ | refine Fork.no (by assumption) ?_ | refine Fork.decYes (by omega) ?_ | refine Fork.decNo (by omega) ?_ | refine Fork.dec (fun _ => ?_) (fun _ => ?_) | refine Fork.bne (fun _ => ?_) (fun _ => ?_) | refine Fork.beq (fun _ => ?_) (fun _ => ?_) | refine Fork.seq (fun _ => ?_) (fun _ => ?_) | refine Fork.sne (fun _ => ?_) (fun _ => ?_) | refine Fork.neg (fun _ => ?_) (fun _ => ?_) | refine Fork.mk (fun _ => ?_) (fun _ => ?_) | refine HAlt.mk ?_ ?_ | apply HJoin.mk3 | exact HEnd.mk rfl rfl rfl | refine HEnd.mk ?_ ?_ ?_ | refine Round.mk ?_ | refine NilQ.mk (fun b hb => ?_) | refine forceK_of ?_ | refine forceBx_of ?_ | refine unG_old ?_ | refine unG_gv ?_ | refine Lit.read rfl ?_ | refine LitO.own rfl ?_ | refine FinVal.keep ?_ | refine FinAgg.keep ?_ | refine Final.mk rfl rfl | refine Final.mk ?_ rfl | refine Final.mk ?_ ?_ | refine FinalT.mk ?_ ?_ | refine FinalI.mk ?_ | refine FinalC.allA ?_ | refine ACall.scalA _ _ (e1) rfl ?_ | refine AQCall.mkA _ _ (fun hg => e1) rfl ?_ | refine AGCall.mkA _ _ (fun hg => e1) rfl ?_ | refine ACall.scalA _ _ (e2) rfl ?_ | refine AQCall.mkA _ _ (fun hg => e2) rfl ?_ | refine AGCall.mkA _ _ (fun hg => e2) rfl ?_)
    | refine AV.bool_congr ?_ | refine AV.int_congr ?_ | refine AV.str_congr ?_ | refine AV.list_congr ?_ | with_reducible rfl | refine fr1 ?_ | refine fr2 ?_ ?_
  all_goals (rename_i h; simp at h)
theorem atom_novar' {t : Str} (h : atomF t = true) : varF t = false := by
  cases t with
  | nil => rfl
  | cons c t =>
    have hc : alnum c = true := by
      unfold atomF at h
      rw [List.all_cons, Bool.and_eq_true, Bool.and_eq_true] at h
      exact h.1.1
    cases hv : varF (c :: t) with
    | false => rfl
    | true =>
      unfold varF at hv
      simp only [Bool.and_eq_true, beq_iff_eq, List.getD_cons_zero] at hv
      have h63 : c.toNat = 63 := by have := hv.1.2; omega
      have : c = 63 := UInt8.toNat_inj.1 h63
      rw [this] at hc
      exact absurd hc (by decide)
def odds : List Int := [-1, 0, 1, 2, 9, 10, 24, 25, 200, 201, 9999, 10000, 9223372036854775807, -9223372036854775808]
theorem dOdd.drw : Drw false Tryd.prog 26 [] (fun n : Int => n ∈ odds) (fun n => .v (.int .i64 n)) := by
  refine Drw.of fun l i h hi => dOdd.ofL rfl rfl ?_
  have hd := dInt.drw odds (by decide) (by decide)
  repeat' first
    | contradiction | exact trivial
    | (conv => whnf
       first | refine Need.mk (fun h => h) ?_ | refine Need.mk rfl ?_ | refine Need.mk ⟨rfl, Nat.le_of_ble_eq_true rfl⟩ ?_ | refine Need.mk (Nat.le_of_ble_eq_true rfl) ?_ | refine Need.fin ?_ | refine Need.mk ?_ ?_ | refine Ix.strsF rfl ?_ | refine Ix.strs rfl ?_ ?_ | refine Cut.strs rfl ?_ ?_ | refine Ix.mapF (fun _ => rfl) ?_ | refine Ix.map (fun _ => rfl) ?_ ?_ | refine Cut.map (fun _ => rfl) ?_ ?_ | refine Fork.yes (by assumption) ?_ | refine Fork.no (by assumption) ?_ | refine Fork.decYes (by omega) ?_ | refine Fork.decNo (by omega) ?_ | refine Fork.dec (fun _ => ?_) (fun _ => ?_) | refine Fork.bne (fun _ => ?_) (fun _ => ?_) | refine Fork.beq (fun _ => ?_) (fun _ => ?_) | refine Fork.seq (fun _ => ?_) (fun _ => ?_) | refine Fork.sne (fun _ => ?_) (fun _ => ?_) | refine Fork.neg (fun _ => ?_) (fun _ => ?_) | refine Fork.mk (fun _ => ?_) (fun _ => ?_) | refine HAlt.mk ?_ ?_ | apply HJoin.mk3 | exact HEnd.mk rfl rfl rfl | refine HEnd.mk ?_ ?_ ?_ | refine Round.mk ?_ | refine NilQ.mk (fun b hb => ?_) | refine forceK_of ?_ | refine forceBx_of ?_ | refine unG_old ?_ | refine unG_gv ?_ | refine Lit.read rfl ?_ | refine LitO.own rfl ?_ | refine FinVal.keep ?_ | refine FinAgg.keep ?_ | refine Final.mk rfl rfl | refine Final.mk ?_ rfl | refine Final.mk ?_ ?_ | refine FinalT.mk ?_ ?_ | refine FinalI.mk ?_ | refine FinalC.cur ?_ | refine ACall.drw (hd) rfl (by assumption) (by repeat' first | exact SeesL.nil | refine SeesL.cons ?_ ?_ | exact Or.inl ⟨rfl, rfl⟩ | exact Or.inr (Sees0.str _) | exact Or.inr (Sees0.val _) | exact Or.inr (Sees0.olds _ _) | exact Or.inr (Sees0.old _) | exact Or.inr (Sees0.oldagg _) | exact Or.inr (Sees0.list rfl) | exact Or.inr Sees0.nil) rfl (fun a i' h' hi' hq => ?_))
    | refine AV.bool_congr ?_ | refine AV.int_congr ?_ | refine AV.str_congr ?_ | refine AV.list_congr ?_ | with_reducible rfl | refine fr1 ?_ | refine fr2 ?_ ?_
  exact DrwEnd.at _ (by assumption) (by assumption)
theorem DrawFormatInt.drt : Drt false Tryd.prog 7 (fun n : Int => -9223372036854775808 ≤ n ∧ n ≤ 9223372036854775807) (fun n => .v (.int .i64 n)) := by
  refine Drt.of fun l i0 hi0 => DrawFormatInt.ofL rfl rfl ?_
  repeat' first
    | contradiction | exact trivial
    | (conv => whnf
       first | refine Need.mk (fun h => h) ?_ | refine Need.mk rfl ?_ | refine Need.mk ⟨rfl, Nat.le_of_ble_eq_true rfl⟩ ?_ | refine Need.mk (Nat.le_of_ble_eq_true rfl) ?_ | refine Need.fin ?_ | refine Need.mk ?_ ?_ | refine Ix.strsF rfl ?_ | refine Ix.strs rfl ?_ ?_ | refine Cut.strs rfl ?_ ?_ | refine Ix.mapF (fun _ => rfl) ?_ | refine Ix.map (fun _ => rfl) ?_ ?_ | refine Cut.map (fun _ => rfl) ?_ ?_ | refine Fork.yes (by assumption) ?_ | refine Fork.no (by assumption) ?_ | refine Fork.decYes (by omega) ?_ | refine Fork.decNo (by omega) ?_ | refine Fork.dec (fun _ => ?_) (fun _ => ?_) | refine Fork.bne (fun _ => ?_) (fun _ => ?_) | refine Fork.beq (fun _ => ?_) (fun _ => ?_) | refine Fork.seq (fun _ => ?_) (fun _ => ?_) | refine Fork.sne (fun _ => ?_) (fun _ => ?_) | refine Fork.neg (fun _ => ?_) (fun _ => ?_) | refine Fork.mk (fun _ => ?_) (fun _ => ?_) | refine HAlt.mk ?_ ?_ | apply HJoin.mk3 | exact HEnd.mk rfl rfl rfl | refine HEnd.mk ?_ ?_ ?_ | refine Round.mk ?_ | refine NilQ.mk (fun b hb => ?_) | refine forceK_of ?_ | refine forceBx_of ?_ | refine unG_old ?_ | refine unG_gv ?_ | refine Lit.read rfl ?_ | refine LitO.own rfl ?_ | refine FinVal.keep ?_ | refine FinAgg.keep ?_ | refine Final.mk rfl rfl | refine Final.mk ?_ rfl | refine Final.mk ?_ ?_ | refine FinalT.mk ?_ ?_ | refine FinalI.mk ?_ | refine FinalC.hide ?_ | refine ACall.newC (dNew.ins _ _ (by assumption) _ _) rfl (fun i h hi => ?_) | refine ACall.drw (dOnce.drw _ ?_) rfl (by assumption) (by repeat' first | exact SeesL.nil | refine SeesL.cons ?_ ?_ | exact Or.inl ⟨rfl, rfl⟩ | exact Or.inr (Sees0.str _) | exact Or.inr (Sees0.val _) | exact Or.inr (Sees0.olds _ _) | exact Or.inr (Sees0.old _) | exact Or.inr (Sees0.oldagg _) | exact Or.inr (Sees0.list rfl) | exact Or.inr Sees0.nil) rfl (fun a i' h' hi' hq => ?_) | refine ACall.drw (dOdd.drw) rfl (by assumption) (by repeat' first | exact SeesL.nil | refine SeesL.cons ?_ ?_ | exact Or.inl ⟨rfl, rfl⟩ | exact Or.inr (Sees0.str _) | exact Or.inr (Sees0.val _) | exact Or.inr (Sees0.olds _ _) | exact Or.inr (Sees0.old _) | exact Or.inr (Sees0.oldagg _) | exact Or.inr (Sees0.list rfl) | exact Or.inr Sees0.nil) rfl (fun a i' h' hi' hq => ?_) | refine ACall.drw (dBelow.drw _ ?_) rfl (by assumption) (by repeat' first | exact SeesL.nil | refine SeesL.cons ?_ ?_ | exact Or.inl ⟨rfl, rfl⟩ | exact Or.inr (Sees0.str _) | exact Or.inr (Sees0.val _) | exact Or.inr (Sees0.olds _ _) | exact Or.inr (Sees0.old _) | exact Or.inr (Sees0.oldagg _) | exact Or.inr (Sees0.list rfl) | exact Or.inr Sees0.nil) rfl (fun a i' h' hi' hq => ?_))
    | refine AV.bool_congr ?_ | refine AV.int_congr ?_ | refine AV.str_congr ?_ | refine AV.list_congr ?_ | with_reducible rfl | refine fr1 ?_ | refine fr2 ?_ ?_
  all_goals first
    | decide
    | exact ⟨_, (by decide : ∀ n ∈ odds, -9223372036854775808 ≤ n ∧ n ≤ 9223372036854775807) _ hq, Sees0.val _⟩
    | exact ⟨_, ⟨by omega, by omega⟩, Sees0.val _⟩
theorem DrawIsTerm.drt : Drt false Tryd.prog 10 (fun s : Str => s.length ≤ 10) (fun s => .s s) := by
  refine Drt.of fun l i0 hi0 => DrawIsTerm.ofL rfl rfl ?_
  repeat' first
    | contradiction | exact trivial
    | (conv => whnf
       first | refine Need.mk (fun h => h) ?_ | refine Need.mk rfl ?_ | refine Need.mk ⟨rfl, Nat.le_of_ble_eq_true rfl⟩ ?_ | refine Need.mk (Nat.le_of_ble_eq_true rfl) ?_ | refine Need.fin ?_ | refine Need.mk ?_ ?_ | refine Ix.strsF rfl ?_ | refine Ix.strs rfl ?_ ?_ | refine Cut.strs rfl ?_ ?_ | refine Ix.mapF (fun _ => rfl) ?_ | refine Ix.map (fun _ => rfl) ?_ ?_ | refine Cut.map (fun _ => rfl) ?_ ?_ | refine Fork.yes (by assumption) ?_ | refine Fork.no (by assumption) ?_ | refine Fork.decYes (by omega) ?_ | refine Fork.decNo (by omega) ?_ | refine Fork.dec (fun _ => ?_) (fun _ => ?_) | refine Fork.bne (fun _ => ?_) (fun _ => ?_) | refine Fork.beq (fun _ => ?_) (fun _ => ?_) | refine Fork.seq (fun _ => ?_) (fun _ => ?_) | refine Fork.sne (fun _ => ?_) (fun _ => ?_) | refine Fork.neg (fun _ => ?_) (fun _ => ?_) | refine Fork.mk (fun _ => ?_) (fun _ => ?_) | refine HAlt.mk ?_ ?_ | apply HJoin.mk3 | exact HEnd.mk rfl rfl rfl | refine HEnd.mk ?_ ?_ ?_ | refine Round.mk ?_ | refine NilQ.mk (fun b hb => ?_) | refine forceK_of ?_ | refine forceBx_of ?_ | refine unG_old ?_ | refine unG_gv ?_ | refine Lit.read rfl ?_ | refine LitO.own rfl ?_ | refine FinVal.keep ?_ | refine FinAgg.keep ?_ | refine Final.mk rfl rfl | refine Final.mk ?_ rfl | refine Final.mk ?_ ?_ | refine FinalT.mk ?_ ?_ | refine FinalI.mk ?_ | refine FinalC.hide ?_ | refine ACall.newC (dNew.ins _ _ (by assumption) _ _) rfl (fun i h hi => ?_) | refine ACall.drw (dWord.drw) rfl (by assumption) (by repeat' first | exact SeesL.nil | refine SeesL.cons ?_ ?_ | exact Or.inl ⟨rfl, rfl⟩ | exact Or.inr (Sees0.str _) | exact Or.inr (Sees0.val _) | exact Or.inr (Sees0.olds _ _) | exact Or.inr (Sees0.old _) | exact Or.inr (Sees0.oldagg _) | exact Or.inr (Sees0.list rfl) | exact Or.inr Sees0.nil) rfl (fun a i' h' hi' hq => ?_))
    | refine AV.bool_congr ?_ | refine AV.int_congr ?_ | refine AV.str_congr ?_ | refine AV.list_congr ?_ | with_reducible rfl | refine fr1 ?_ | refine fr2 ?_ ?_
  all_goals exact ⟨_, word_len _ hq, Sees0.str _⟩
theorem DrawCompareAtoms.drt : Drt false Tryd.prog 16 (fun s : Str × Str => s.1.length ≤ 10 ∧ s.2.length ≤ 10) (fun s => .p [.s s.1, .s s.2]) := by
  refine Drt.of fun l i0 hi0 => DrawCompareAtoms.ofL rfl rfl ?_
  repeat' first
    | contradiction | exact trivial
    | (conv => whnf
       first | refine Need.mk (fun h => h) ?_ | refine Need.mk rfl ?_ | refine Need.mk ⟨rfl, Nat.le_of_ble_eq_true rfl⟩ ?_ | refine Need.mk (Nat.le_of_ble_eq_true rfl) ?_ | refine Need.fin ?_ | refine Need.mk ?_ ?_ | refine Ix.strsF rfl ?_ | refine Ix.strs rfl ?_ ?_ | refine Cut.strs rfl ?_ ?_ | refine Ix.mapF (fun _ => rfl) ?_ | refine Ix.map (fun _ => rfl) ?_ ?_ | refine Cut.map (fun _ => rfl) ?_ ?_ | refine Fork.yes (by assumption) ?_ | refine Fork.no (by assumption) ?_ | refine Fork.decYes (by omega) ?_ | refine Fork.decNo (by omega) ?_ | refine Fork.dec (fun _ => ?_) (fun _ => ?_) | refine Fork.bne (fun _ => ?_) (fun _ => ?_) | refine Fork.beq (fun _ => ?_) (fun _ => ?_) | refine Fork.seq (fun _ => ?_) (fun _ => ?_) | refine Fork.sne (fun _ => ?_) (fun _ => ?_) | refine Fork.neg (fun _ => ?_) (fun _ => ?_) | refine Fork.mk (fun _ => ?_) (fun _ => ?_) | refine HAlt.mk ?_ ?_ | apply HJoin.mk3 | exact HEnd.mk rfl rfl rfl | refine HEnd.mk ?_ ?_ ?_ | refine Round.mk ?_ | refine NilQ.mk (fun b hb => ?_) | refine forceK_of ?_ | refine forceBx_of ?_ | refine unG_old ?_ | refine unG_gv ?_ | refine Lit.read rfl ?_ | refine LitO.own rfl ?_ | refine FinVal.keep ?_ | refine FinAgg.keep ?_ | refine Final.mk rfl rfl | refine Final.mk ?_ rfl | refine Final.mk ?_ ?_ | refine FinalT.mk ?_ ?_ | refine FinalI.mk ?_ | refine FinalC.hide ?_ | refine ACall.newC (dNew.ins _ _ (by assumption) _ _) rfl (fun i h hi => ?_) | refine ACall.drw (dWord.drw) rfl (by assumption) (by repeat' first | exact SeesL.nil | refine SeesL.cons ?_ ?_ | exact Or.inl ⟨rfl, rfl⟩ | exact Or.inr (Sees0.str _) | exact Or.inr (Sees0.val _) | exact Or.inr (Sees0.olds _ _) | exact Or.inr (Sees0.old _) | exact Or.inr (Sees0.oldagg _) | exact Or.inr (Sees0.list rfl) | exact Or.inr Sees0.nil) rfl (fun a i' h' hi' hq => ?_))
    | refine AV.bool_congr ?_ | refine AV.int_congr ?_ | refine AV.str_congr ?_ | refine AV.list_congr ?_ | with_reducible rfl | refine fr1 ?_ | refine fr2 ?_ ?_
  all_goals
    rename_i w1 _ _ _ hq1
    refine ⟨(w1, a), ⟨word_len _ hq1, word_len _ hq⟩, ?_⟩
    (repeat' first | exact SeesL.nil | refine SeesL.cons ?_ ?_ | exact Sees0.val _ | exact Sees0.str _ | exact Sees0.olds _ _ | exact Sees0.old _ | exact Sees0.oldagg _ | exact Sees0.nil | refine Sees0.agg (SeesL.cons ?_ (SeesL.cons ?_ SeesL.nil)) | refine Sees0.agg (SeesL.cons ?_ (SeesL.cons ?_ (SeesL.cons ?_ (SeesL.cons ?_ (SeesL.cons ?_ SeesL.nil))))) | refine Sees0.agg ?_ | refine Sees0.tup ?_ | exact Sees0.list rfl | exact accSees _ _)
theorem lbig.ret (l : List Int) (h : l.length ≤ 9223372036854775807) : lbig.Ret [.list none (rows tByte l)] (.val (.bool (decide ((4096 : Int) < l.length)))) [] := by
  refine lbig.of rfl ?_
  repeat' first
    | contradiction | exact trivial
    | (conv => whnf
       first | refine Need.mk (fun h => h) ?_ | refine Need.mk rfl ?_ | refine Need.mk ⟨rfl, Nat.le_of_ble_eq_true rfl⟩ ?_ | refine Need.mk (Nat.le_of_ble_eq_true rfl) ?_ | refine Need.fin ?_ | refine Need.mk ?_ ?_ | refine Ix.strsF rfl ?_ | refine Ix.strs rfl ?_ ?_ | refine Cut.strs rfl ?_ ?_ | refine Ix.mapF (fun _ => rfl) ?_ | refine Ix.map (fun _ => rfl) ?_ ?_ | refine Cut.map (fun _ => rfl) ?_ ?_ | refine Fork.yes (by assumption) ?_ | refine Fork.no (by assumption) ?_ | refine Fork.decYes (by omega) ?_ | refine Fork.decNo (by omega) ?_ | refine Fork.dec (fun _ => ?_) (fun _ => ?_) | refine Fork.bne (fun _ => ?_) (fun _ => ?_) | refine Fork.beq (fun _ => ?_) (fun _ => ?_) | refine Fork.seq (fun _ => ?_) (fun _ => ?_) | refine Fork.sne (fun _ => ?_) (fun _ => ?_) | refine Fork.neg (fun _ => ?_) (fun _ => ?_) | refine Fork.mk (fun _ => ?_) (fun _ => ?_) | refine HAlt.mk ?_ ?_ | apply HJoin.mk3 | exact HEnd.mk rfl rfl rfl | refine HEnd.mk ?_ ?_ ?_ | refine Round.mk ?_ | refine NilQ.mk (fun b hb => ?_) | refine forceK_of ?_ | refine forceBx_of ?_ | refine unG_old ?_ | refine unG_gv ?_ | refine Lit.read rfl ?_ | refine LitO.own rfl ?_ | refine FinVal.keep ?_ | refine FinAgg.keep ?_ | refine Final.mk rfl rfl | refine Final.mk ?_ rfl | refine Final.mk ?_ ?_ | refine FinalT.mk ?_ ?_ | refine FinalI.mk ?_ | refine FinalC.allA ?_)
    | refine AV.bool_congr ?_ | refine AV.int_congr ?_ | refine AV.str_congr ?_ | refine AV.list_congr ?_ | with_reducible rfl | refine fr1 ?_ | refine fr2 ?_ ?_
  rw [length_rows]
theorem atoms1 {n : Int} (h : (!((parseF (Lib.itoa n)).2 == (decide (0 ≤ n) && decide (n ≤ 9999))) || (parseF (Lib.itoa n)).2 && (parseF (Lib.itoa n)).1 != n) = true) : False := by
  rw [parse_itoa] at h
  by_cases hn : 0 ≤ n ∧ n ≤ 9999
  · rw [if_pos hn, decide_eq_true hn.1, decide_eq_true hn.2] at h
    simp at h
  · rw [if_neg hn, ← Bool.decide_and, decide_eq_false hn] at h
    simp at h
theorem atoms2 {s : Str} (h : (nameF s && (parseF s).2 || varF s && atomF s || !((atomF s || varF s) == (varF s || atomF s))) = true) : False := by
  rw [name_number, Bool.or_comm (varF s)] at h
  cases ha : atomF s with
  | false => rw [ha] at h; simp at h
  | true => rw [ha, atom_novar' ha] at h; simp at h
theorem cmpA_three (x y : Str) : cmpA x y = -1 ∨ cmpA x y = 0 ∨ cmpA x y = 1 := by
  unfold cmpA icmp scmp
  repeat' split
  all_goals simp
theorem atoms3 (u v : Str) : (cmpA u v == IntKind.i64.wrap (-cmpA v u) && ((cmpA u v == 0) == (u == v))) = true := by
  obtain ⟨h1, h2⟩ := cmpA_law u v
  have h3 := cmpA_three v u
  rw [wrap64 (by omega) (by omega), ← h1, h2]
  by_cases e : u = v
  · subst e; simp
  · simp [e]
theorem lawAtoms.ret (l : List Int) (hb : l.length ≤ 9223372036854775807 ∧ ∀ a ∈ l, tByte.bd a) : lawAtoms.RetN [.list none (rows tByte l)] (.val (.bool true)) [] := by
  refine lawAtoms.of rfl ?_
  have hg := Ret.weak (mo := false) (lbig.ret l hb.1)
  by_cases hl : 4096 < l.length
  · repeat' first
      | contradiction | exact trivial
      | (conv => whnf
         first | refine Need.mk (fun h => h) ?_ | refine Need.mk rfl ?_ | refine Need.mk ⟨rfl, Nat.le_of_ble_eq_true rfl⟩ ?_ | refine Need.mk (Nat.le_of_ble_eq_true rfl) ?_ | refine Need.fin ?_ | refine Need.mk ?_ ?_ | refine Ix.strsF rfl ?_ | refine Ix.strs rfl ?_ ?_ | refine Cut.strs rfl ?_ ?_ | refine Ix.mapF (fun _ => rfl) ?_ | refine Ix.map (fun _ => rfl) ?_ ?_ | refine Cut.map (fun _ => rfl) ?_ ?_ | refine Fork.yes (by assumption) ?_ | refine Fork.no (by assumption) ?_ | refine Fork.decYes (by omega) ?_ | refine Fork.decNo (by omega) ?_ | refine Fork.dec (fun _ => ?_) (fun _ => ?_) | refine Fork.bne (fun _ => ?_) (fun _ => ?_) | refine Fork.beq (fun _ => ?_) (fun _ => ?_) | refine Fork.seq (fun _ => ?_) (fun _ => ?_) | refine Fork.sne (fun _ => ?_) (fun _ => ?_) | refine Fork.neg (fun _ => ?_) (fun _ => ?_) | refine Fork.mk (fun _ => ?_) (fun _ => ?_) | refine HAlt.mk ?_ ?_ | apply HJoin.mk3 | exact HEnd.mk rfl rfl rfl | refine HEnd.mk ?_ ?_ ?_ | refine Round.mk ?_ | refine NilQ.mk (fun b hb => ?_) | refine forceK_of ?_ | refine forceBx_of ?_ | refine unG_old ?_ | refine unG_gv ?_ | refine Lit.read rfl ?_ | refine LitO.own rfl ?_ | refine FinVal.keep ?_ | refine FinAgg.keep ?_ | refine Final.mk rfl rfl | refine Final.mk ?_ rfl | refine Final.mk ?_ ?_ | refine FinalT.mk ?_ ?_ | refine FinalI.mk ?_ | refine FinalC.allA ?_ | refine ACall.scalA _ _ (hg) rfl ?_ | refine AQCall.mkA _ _ (fun hg => hg) rfl ?_ | refine AGCall.mkA _ _ (fun hg => hg) rfl ?_)
      | refine AV.bool_congr ?_ | refine AV.int_congr ?_ | refine AV.str_congr ?_ | refine AV.list_congr ?_ | with_reducible rfl | refine fr1 ?_ | refine fr2 ?_ ?_
  have hc : CurOk l 0 := ⟨Int.le_refl _, by omega, by omega, hb.2⟩
  repeat' first
    | contradiction | exact trivial
    | (conv => whnf
       first | refine Need.mk (fun h => h) ?_ | refine Need.mk rfl ?_ | refine Need.mk ⟨rfl, Nat.le_of_ble_eq_true rfl⟩ ?_ | refine Need.mk (Nat.le_of_ble_eq_true rfl) ?_ | refine Need.fin ?_ | refine Need.mk ?_ ?_ | refine Ix.strsF rfl ?_ | refine Ix.strs rfl ?_ ?_ | refine Cut.strs rfl ?_ ?_ | refine Ix.mapF (fun _ => rfl) ?_ | refine Ix.map (fun _ => rfl) ?_ ?_ | refine Cut.map (fun _ => rfl) ?_ ?_ | refine Fork.yes (by assumption) ?_ | refine Fork.no (by assumption) ?_ | refine Fork.decYes (by omega) ?_ | refine Fork.decNo (by omega) ?_ | refine Fork.dec (fun _ => ?_) (fun _ => ?_) | refine Fork.bne (fun _ => ?_) (fun _ => ?_) | refine Fork.beq (fun _ => ?_) (fun _ => ?_) | refine Fork.seq (fun _ => ?_) (fun _ => ?_) | refine Fork.sne (fun _ => ?_) (fun _ => ?_) | refine Fork.neg (fun _ => ?_) (fun _ => ?_) | refine Fork.mk (fun _ => ?_) (fun _ => ?_) | refine HAlt.mk ?_ ?_ | apply HJoin.mk3 | exact HEnd.mk rfl rfl rfl | refine HEnd.mk ?_ ?_ ?_ | refine Round.mk ?_ | refine NilQ.mk (fun b hb => ?_) | refine forceK_of ?_ | refine forceBx_of ?_ | refine unG_old ?_ | refine unG_gv ?_ | refine Lit.read rfl ?_ | refine LitO.own rfl ?_ | refine FinVal.keep ?_ | refine FinAgg.keep ?_ | refine Final.mk rfl rfl | refine Final.mk ?_ rfl | refine Final.mk ?_ ?_ | refine FinalT.mk ?_ ?_ | refine FinalI.mk ?_ | refine FinalC.allA ?_ | refine ACall.scalA _ _ (hg) rfl ?_ | refine AQCall.mkA _ _ (fun hg => hg) rfl ?_ | refine AGCall.mkA _ _ (fun hg => hg) rfl ?_ | refine ACall.drt (DrawFormatInt.drt) (by assumption) (by repeat' first | exact SeesL.nil | refine SeesL.cons ?_ ?_ | exact SeesB.of0 (Sees0.val _) | exact SeesB.of0 (Sees0.str _) | exact SeesB.of0 (Sees0.olds _ _) | exact SeesB.of0 (Sees0.old _) | exact SeesB.of0 (Sees0.oldagg _) | exact SeesB.of0 Sees0.nil | exact Sees0.val _ | exact Sees0.str _ | exact Sees0.olds _ _ | exact Sees0.old _ | exact Sees0.oldagg _ | exact Sees0.nil | exact SeesB.of0 (Sees0.any _) | assumption | exact sees_gv _ _ _ (by assumption) (by first | assumption | exact BoxIn.last _ _ | exact BoxIn.more (BoxIn.last _ _) _) | refine SeesB.agg ?_ | refine Sees0.agg ?_ | exact SeesB.of0 (Sees0.clo SeesL.nil SeesL.nil) | exact Sees0.clo SeesL.nil SeesL.nil | exact SeesB.of0 (Sees0.list rfl) | exact Sees0.list rfl) (fun a hq => ?_))
    | refine AV.bool_congr ?_ | refine AV.int_congr ?_ | refine AV.str_congr ?_ | refine AV.list_congr ?_ | with_reducible rfl | refine fr1 ?_ | refine fr2 ?_ ?_
  obtain ⟨n, hn⟩ : ∃ n, n = a := ⟨_, rfl⟩
  subst hn
  have e1 := Ret.weak (mo := false) (pFormatInt.all n hq.1 hq.2)
  have e2 := Ret.weak (mo := false) (pParseInt.ret (Lib.itoa n) (by have := itoa_len hq.1 hq.2; omega))
  repeat' first
    | contradiction | exact trivial
    | (conv => whnf
       first | refine Need.mk (fun h => h) ?_ | refine Need.mk rfl ?_ | refine Need.mk ⟨rfl, Nat.le_of_ble_eq_true rfl⟩ ?_ | refine Need.mk (Nat.le_of_ble_eq_true rfl) ?_ | refine Need.fin ?_ | refine Need.mk ?_ ?_ | refine Ix.strsF rfl ?_ | refine Ix.strs rfl ?_ ?_ | refine Cut.strs rfl ?_ ?_ | refine Ix.mapF (fun _ => rfl) ?_ | refine Ix.map (fun _ => rfl) ?_ ?_ | refine Cut.map (fun _ => rfl) ?_ ?_ | refine Fork.yes (by assumption) ?_ | refine Fork.no (by assumption) ?_ | refine Fork.decYes (by omega) ?_ | refine Fork.decNo (by omega) ?_ | refine Fork.dec (fun _ => ?_) (fun _ => ?_) | refine Fork.bne (fun _ => ?_) (fun _ => ?_) | refine Fork.beq (fun _ => ?_) (fun _ => ?_) | refine Fork.seq (fun _ => ?_) (fun _ => ?_) | refine Fork.sne (fun _ => ?_) (fun _ => ?_) | refine Fork.neg (fun _ => ?_) (fun _ => ?_) | refine Fork.mk (fun _ => ?_) (fun _ => ?_) | refine HAlt.mk ?_ ?_ | apply HJoin.mk3 | exact HEnd.mk rfl rfl rfl | refine HEnd.mk ?_ ?_ ?_ | refine Round.mk ?_ | refine NilQ.mk (fun b hb => ?_) | refine forceK_of ?_ | refine forceBx_of ?_ | refine unG_old ?_ | refine unG_gv ?_ | refine Lit.read rfl ?_ | refine LitO.own rfl ?_ | refine FinVal.keep ?_ | refine FinAgg.keep ?_ | refine Final.mk rfl rfl | refine Final.mk ?_ rfl | refine Final.mk ?_ ?_ | refine FinalT.mk ?_ ?_ | refine FinalI.mk ?_ | refine FinalC.allA ?_ | refine ACall.scalA _ _ (e1) rfl ?_ | refine AQCall.mkA _ _ (fun hg => e1) rfl ?_ | refine AGCall.mkA _ _ (fun hg => e1) rfl ?_ | refine ACall.scalA _ _ (e2) rfl ?_ | refine AQCall.mkA _ _ (fun hg => e2) rfl ?_ | refine AGCall.mkA _ _ (fun hg => e2) rfl ?_ | refine ACall.drt (DrawIsTerm.drt) (by assumption) (by repeat' first | exact SeesL.nil | refine SeesL.cons ?_ ?_ | exact SeesB.of0 (Sees0.val _) | exact SeesB.of0 (Sees0.str _) | exact SeesB.of0 (Sees0.olds _ _) | exact SeesB.of0 (Sees0.old _) | exact SeesB.of0 (Sees0.oldagg _) | exact SeesB.of0 Sees0.nil | exact Sees0.val _ | exact Sees0.str _ | exact Sees0.olds _ _ | exact Sees0.old _ | exact Sees0.oldagg _ | exact Sees0.nil | exact SeesB.of0 (Sees0.any _) | assumption | exact sees_gv _ _ _ (by assumption) (by first | assumption | exact BoxIn.last _ _ | exact BoxIn.more (BoxIn.last _ _) _) | refine SeesB.agg ?_ | refine Sees0.agg ?_ | exact SeesB.of0 (Sees0.clo SeesL.nil SeesL.nil) | exact Sees0.clo SeesL.nil SeesL.nil | exact SeesB.of0 (Sees0.list rfl) | exact Sees0.list rfl) (fun a hq => ?_))
    | refine AV.bool_congr ?_ | refine AV.int_congr ?_ | refine AV.str_congr ?_ | refine AV.list_congr ?_ | with_reducible rfl | refine fr1 ?_ | refine fr2 ?_ ?_
  · exact absurd (by assumption) (fun h => atoms1 h)
  obtain ⟨s, hs⟩ : ∃ s, s = a := ⟨_, rfl⟩
  subst hs
  have hs10 : s.length ≤ 1048576 := by omega
  have f1 := Ret.weak (mo := false) (pIsName.ret s hs10)
  have f2 := Ret.weak (mo := false) (pIsNumber.ret s hs10)
  have f3 := Ret.weak (mo := false) (pIsVar.ret s hs10)
  have f4 := Ret.weak (mo := false) (pIsAtom.ret s hs10)
  have f5 := Ret.weak (mo := false) (pIsTerm.ret s hs10)
  repeat' first
    | contradiction | exact trivial
    | (conv => whnf
       first | refine Need.mk (fun h => h) ?_ | refine Need.mk rfl ?_ | refine Need.mk ⟨rfl, Nat.le_of_ble_eq_true rfl⟩ ?_ | refine Need.mk (Nat.le_of_ble_eq_true rfl) ?_ | refine Need.fin ?_ | refine Need.mk ?_ ?_ | refine Ix.strsF rfl ?_ | refine Ix.strs rfl ?_ ?_ | refine Cut.strs rfl ?_ ?_ | refine Ix.mapF (fun _ => rfl) ?_ | refine Ix.map (fun _ => rfl) ?_ ?_ | refine Cut.map (fun _ => rfl) ?_ ?_ | refine Fork.yes (by assumption) ?_ | refine Fork.no (by assumption) ?_ | refine Fork.decYes (by omega) ?_ | refine Fork.decNo (by omega) ?_ | refine Fork.dec (fun _ => ?_) (fun _ => ?_) | refine Fork.bne (fun _ => ?_) (fun _ => ?_) | refine Fork.beq (fun _ => ?_) (fun _ => ?_) | refine Fork.seq (fun _ => ?_) (fun _ => ?_) | refine Fork.sne (fun _ => ?_) (fun _ => ?_) | refine Fork.neg (fun _ => ?_) (fun _ => ?_) | refine Fork.mk (fun _ => ?_) (fun _ => ?_) | refine HAlt.mk ?_ ?_ | apply HJoin.mk3 | exact HEnd.mk rfl rfl rfl | refine HEnd.mk ?_ ?_ ?_ | refine Round.mk ?_ | refine NilQ.mk (fun b hb => ?_) | refine forceK_of ?_ | refine forceBx_of ?_ | refine unG_old ?_ | refine unG_gv ?_ | refine Lit.read rfl ?_ | refine LitO.own rfl ?_ | refine FinVal.keep ?_ | refine FinAgg.keep ?_ | refine Final.mk rfl rfl | refine Final.mk ?_ rfl | refine Final.mk ?_ ?_ | refine FinalT.mk ?_ ?_ | refine FinalI.mk ?_ | refine FinalC.allA ?_ | refine ACall.scalA _ _ (f1) rfl ?_ | refine AQCall.mkA _ _ (fun hg => f1) rfl ?_ | refine AGCall.mkA _ _ (fun hg => f1) rfl ?_ | refine ACall.scalA _ _ (f2) rfl ?_ | refine AQCall.mkA _ _ (fun hg => f2) rfl ?_ | refine AGCall.mkA _ _ (fun hg => f2) rfl ?_ | refine ACall.scalA _ _ (f3) rfl ?_ | refine AQCall.mkA _ _ (fun hg => f3) rfl ?_ | refine AGCall.mkA _ _ (fun hg => f3) rfl ?_ | refine ACall.scalA _ _ (f4) rfl ?_ | refine AQCall.mkA _ _ (fun hg => f4) rfl ?_ | refine AGCall.mkA _ _ (fun hg => f4) rfl ?_ | refine ACall.scalA _ _ (f5) rfl ?_ | refine AQCall.mkA _ _ (fun hg => f5) rfl ?_ | refine AGCall.mkA _ _ (fun hg => f5) rfl ?_ | refine ACall.drt (DrawCompareAtoms.drt) (by assumption) (by repeat' first | exact SeesL.nil | refine SeesL.cons ?_ ?_ | exact SeesB.of0 (Sees0.val _) | exact SeesB.of0 (Sees0.str _) | exact SeesB.of0 (Sees0.olds _ _) | exact SeesB.of0 (Sees0.old _) | exact SeesB.of0 (Sees0.oldagg _) | exact SeesB.of0 Sees0.nil | exact Sees0.val _ | exact Sees0.str _ | exact Sees0.olds _ _ | exact Sees0.old _ | exact Sees0.oldagg _ | exact Sees0.nil | exact SeesB.of0 (Sees0.any _) | assumption | exact sees_gv _ _ _ (by assumption) (by first | assumption | exact BoxIn.last _ _ | exact BoxIn.more (BoxIn.last _ _) _) | refine SeesB.agg ?_ | refine Sees0.agg ?_ | exact SeesB.of0 (Sees0.clo SeesL.nil SeesL.nil) | exact Sees0.clo SeesL.nil SeesL.nil | exact SeesB.of0 (Sees0.list rfl) | exact Sees0.list rfl) (fun a hq => ?_))
    | refine AV.bool_congr ?_ | refine AV.int_congr ?_ | refine AV.str_congr ?_ | refine AV.list_congr ?_ | with_reducible rfl | refine fr1 ?_ | refine fr2 ?_ ?_
  · exact absurd (by assumption) (fun h => atoms2 h)
  obtain ⟨u, v⟩ := a
  have hc := fun x y (hx : List.length x ≤ 10) (hy : List.length y ≤ 10) => Ret.weak (mo := false) (pCompareAtoms.ret x y (by omega) (by omega))
  repeat' first
    | contradiction | exact trivial
    | (conv => whnf
       first | refine Need.mk (fun h => h) ?_ | refine Need.mk rfl ?_ | refine Need.mk ⟨rfl, Nat.le_of_ble_eq_true rfl⟩ ?_ | refine Need.mk (Nat.le_of_ble_eq_true rfl) ?_ | refine Need.fin ?_ | refine Need.mk ?_ ?_ | refine Ix.strsF rfl ?_ | refine Ix.strs rfl ?_ ?_ | refine Cut.strs rfl ?_ ?_ | refine Ix.mapF (fun _ => rfl) ?_ | refine Ix.map (fun _ => rfl) ?_ ?_ | refine Cut.map (fun _ => rfl) ?_ ?_ | refine Fork.yes (by assumption) ?_ | refine Fork.no (by assumption) ?_ | refine Fork.decYes (by omega) ?_ | refine Fork.decNo (by omega) ?_ | refine Fork.dec (fun _ => ?_) (fun _ => ?_) | refine Fork.bne (fun _ => ?_) (fun _ => ?_) | refine Fork.beq (fun _ => ?_) (fun _ => ?_) | refine Fork.seq (fun _ => ?_) (fun _ => ?_) | refine Fork.sne (fun _ => ?_) (fun _ => ?_) | refine Fork.neg (fun _ => ?_) (fun _ => ?_) | refine Fork.mk (fun _ => ?_) (fun _ => ?_) | refine HAlt.mk ?_ ?_ | apply HJoin.mk3 | exact HEnd.mk rfl rfl rfl | refine HEnd.mk ?_ ?_ ?_ | refine Round.mk ?_ | refine NilQ.mk (fun b hb => ?_) | refine forceK_of ?_ | refine forceBx_of ?_ | refine unG_old ?_ | refine unG_gv ?_ | refine Lit.read rfl ?_ | refine LitO.own rfl ?_ | refine FinVal.keep ?_ | refine FinAgg.keep ?_ | refine Final.mk rfl rfl | refine Final.mk ?_ rfl | refine Final.mk ?_ ?_ | refine FinalT.mk ?_ ?_ | refine FinalI.mk ?_ | refine FinalC.allA ?_ | refine ACall.scalA _ _ (hc _ _ ?_ ?_) rfl ?_ | refine AQCall.mkA _ _ (fun hg => hc _ _ ?_ ?_) rfl ?_ | refine AGCall.mkA _ _ (fun hg => hc _ _ ?_ ?_) rfl ?_)
    | refine AV.bool_congr ?_ | refine AV.int_congr ?_ | refine AV.str_congr ?_ | refine AV.list_congr ?_ | with_reducible rfl | refine fr1 ?_ | refine fr2 ?_ ?_
  all_goals first
    | exact hq.1
    | exact hq.2
    | exact atoms3 u v
end Go.Proofs.YtakojclbmhphnaaDoor
namespace Go.Proofs.YtakojclbmhphnaaDoor
def headSigns : List Nat := [104, 97, 114, 110, 101, 115, 115, 32, 100, 55, 52, 48, 50, 97, 100, 99, 102, 52, 55, 56, 102, 102, 54, 52, 97, 56, 56, 97, 55, 53, 101, 48, 98, 101, 54, 102, 53, 98, 48, 52, 101, 50, 102, 57, 56, 52, 100, 48, 102, 49, 50, 53, 52, 55, 57, 57, 48, 100, 99, 99, 97, 55, 51, 100, 97, 101, 100, 101, 57, 57, 56, 48, 32, 99, 117, 116, 32, 97, 116, 32, 108, 111, 111, 112, 46, 101, 120, 97, 109, 112, 108, 101, 47, 103, 48, 51, 48, 49, 53, 47, 108, 97, 119, 115, 46, 70, 110, 65, 116, 111, 109, 115, 32, 108, 111, 111, 112, 46, 101, 120, 97, 109, 112, 108, 101, 47, 103, 48, 51, 48, 49, 53, 47, 108, 97, 119, 115, 46, 70, 110, 69, 120, 97, 99, 116, 70, 111, 114, 109, 97, 116, 73, 110, 116, 32, 108, 111, 111, 112, 46, 101, 120, 97, 109, 112, 108, 101, 47, 103, 48, 51, 48, 49, 53, 47, 108, 97, 119, 115, 46, 70, 110, 69, 120, 97, 99, 116, 83, 112, 108, 105, 116]
theorem Abs.head : Tryd.prog.initOrder = String.ofList (headSigns.map Char.ofNat) := by kernel_rfl
theorem Abs.signs : Tryd.prog.initOrder.toList = headSigns.map Char.ofNat := by rw [Abs.head, String.toList_ofList]
def headWords : List (List Nat) := [[99, 117, 116], [97, 116], [108, 111, 111, 112, 46, 101, 120, 97, 109, 112, 108, 101, 47, 103, 48, 51, 48, 49, 53, 47, 108, 97, 119, 115, 46, 70, 110, 65, 116, 111, 109, 115], [108, 111, 111, 112, 46, 101, 120, 97, 109, 112, 108, 101, 47, 103, 48, 51, 48, 49, 53, 47, 108, 97, 119, 115, 46, 70, 110, 69, 120, 97, 99, 116, 70, 111, 114, 109, 97, 116, 73, 110, 116], [108, 111, 111, 112, 46, 101, 120, 97, 109, 112, 108, 101, 47, 103, 48, 51, 48, 49, 53, 47, 108, 97, 119, 115, 46, 70, 110, 69, 120, 97, 99, 116, 83, 112, 108, 105, 116]]
theorem Abs.words : behindMainWord (wordsSigns (headSigns.map Char.ofNat)) = headWords.map fun w => w.map Char.ofNat := by kernel_rfl
theorem Abs.heads : behindMainWord (wordsSigns Tryd.prog.initOrder.toList) = headWords.map fun w => w.map Char.ofNat := by rw [Abs.signs, Abs.words]
theorem enters_gen (P : Program) (h : behindMainWord (wordsSigns P.initOrder.toList) = headWords.map fun w => w.map Char.ofNat) (h1 : P.laysLater = false) (h2 : P.bearsReflect = false) (h3 : P.doorFits [] = true) : P.mayEnter = true := by
  have h4 : stripLifts liftWords (headWords.map fun w => w.map Char.ofNat) = ([], headWords.map fun w => w.map Char.ofNat) := by kernel_rfl
  have h5 : (headWords.map fun w => w.map Char.ofNat) = (headWords.headD []).map Char.ofNat :: (headWords.tail.map fun w => w.map Char.ofNat) := rfl
  unfold Program.mayEnter
  rw [h, h1, h2, h5]
  simp only []
  rw [← h5, h4]
  simp only []
  rw [h3]
  rfl
theorem final_gen (P : Program) (h : behindMainWord (wordsSigns P.initOrder.toList) = headWords.map fun w => w.map Char.ofNat) : P.liftsFinal = false := by
  unfold Program.liftsFinal Program.headLifts
  rw [h]
  kernel_rfl
theorem made_gen (P : Program) (h : behindMainWord (wordsSigns P.initOrder.toList) = headWords.map fun w => w.map Char.ofNat) : P.make = some .cut := by
  unfold Program.make
  rw [h]
  rfl
theorem Abs.enters : Tryd.prog.mayEnter = true := enters_gen _ Abs.heads (by kernel_rfl) (by kernel_rfl) (by kernel_rfl)
theorem Abs.final : Tryd.prog.liftsFinal = false := final_gen _ Abs.heads
theorem Abs.made : Tryd.prog.make = some .cut := made_gen _ Abs.heads
theorem main_gen (P : Program) (h : P.initOrder.toList = headSigns.map Char.ofNat) : P.mainIs = some (true, "d7402adcf478ff64a88a75e0be6f5b04e2f984d0f12547990dcca73daede9980".toList) := by
  unfold Program.mainIs
  rw [h]
  kernel_rfl
theorem Abs.main : Tryd.prog.mainIs = some (true, "d7402adcf478ff64a88a75e0be6f5b04e2f984d0f12547990dcca73daede9980".toList) := main_gen _ Abs.signs
theorem Abs.rowed : mapsRowed Tryd.prog = true := by kernel_rfl
theorem Abs.laidOut : laidOutB Tryd.prog = true := by kernel_rfl
/-- the closed facts of a row, without what is known already -/
def joinedLess (P : Program) (f : FuncId) (fn : Func) (s : ChangeSpec) (c : OpenClaim) (h1 : P.mayEnter = true) (h2 : P.liftsFinal = false) (h3 : P.make = some .cut) (h4 : mapsRowed P = true) (h5 : laidOutB P = true) : {b : Bool // joinedFacts P f fn s c = b} := by
  refine ⟨?b, ?h⟩
  case h =>
    unfold joinedFacts
    rw [h1, h2, h3, h4, h5]
theorem Abs.closed {f : FuncId} {fn : Func} {s : ChangeSpec} {c : OpenClaim} (h : (joinedLess Tryd.prog f fn s c Abs.enters Abs.final Abs.made Abs.rowed Abs.laidOut).1 = true) : joinedFacts Tryd.prog f fn s c = true :=
  (joinedLess Tryd.prog f fn s c Abs.enters Abs.final Abs.made Abs.rowed Abs.laidOut).2.trans h
end Go.Proofs.YtakojclbmhphnaaDoor
namespace Go.Proofs.YtakojclbmhphnaaDoor
namespace Abs
open Go.ChangeShapes Go.WideShapes Go.RowKit
def clF (P : Program) (g : TypeId → Option (List Cl)) : Nat → List Field → Option (List Cl)
  | _, [] => some []
  | off, f :: fs => match g f.type with
    | some cs => if f.offset = off ∧ cs.length = P.cellsOf f.type then
        (match clF P g (off + cs.length) fs with | some r => some (cs ++ r) | none => none) else none
    | none => none
def clOf (P : Program) : Nat → TypeId → Option (List Cl)
  | 0, _ => none
  | n + 1, t => match P.underlying t with
    | some .string => some [.str]
    | some .bool => some [.bool]
    | some (.int k) => some [.int k]
    | some (.slice e) => match clOf P n e with
      | some cs => if cs.length = P.cellsOf e ∧ 0 < P.cellsOf e then some [.sl e (P.cellsOf e) cs] else none
      | none => none
    | some (.struct fs) => match clF P (clOf P n) 0 fs.toList with
      | some cs => if cs.length = P.cellsOf t then some cs else none
      | none => none
    | _ => none
theorem Both.app {R : AV → Value → Prop} {xs ys : List AV} {us vs : List Value} (h : Both R xs us) (h' : Both R ys vs) : Both R (xs ++ ys) (us ++ vs) := by
  refine ⟨by simp [h.1, h'.1], fun i x v hx hv => ?_⟩
  rw [List.getElem?_append] at hx hv
  rw [h.1] at hx
  split at hx
  · rename_i hi; rw [if_pos hi] at hv; exact h.2 i x v hx hv
  · rename_i hi; rw [if_neg hi] at hv; exact h'.2 _ x v hx hv
/-- the cells of all blocks that are there -/
def allF (w : World) (b : Nat) : Nat := match w.heap[b]? with | some (.cells c _ _) => c.size | _ => 0
theorem allF_out (w : World) (b : Nat) (h : w.heap.size ≤ b) : allF w b = 0 := by
  unfold allF; rw [Array.getElem?_eq_none h]
section
variable {H : Type} {enc : TypeId × Value → H} {P : Program} {w : World} {base : Nat} {spare : Nat → Bool} {held : Bool}
def Opens (B : Nat) (w : World) (cls : List Cl) (cs : List Value) : Prop :=
  ∃ trs, FitsL cls trs ∧ Both (Rep B w (allF w) [] [] []) (oldL trs) cs ∧ ∀ v ∈ cs, v.oneCell' = true
theorem Opens.one {B : Nat} {cl : Cl} {v : Value} (x : Tr) (h : FitsL [cl] [x]) (hr : Rep B w (allF w) [] [] [] (old x) v) (h1 : v.oneCell' = true) : Opens B w [cl] [v] :=
  ⟨[x], h, Both.cons.2 ⟨hr, rfl, by simp [oldL]⟩, by simp [h1]⟩
theorem open_fields {fuel : Nat} {cs : List Value} (B : Nat) (g : TypeId → Option (List Cl))
    (ih : ∀ t cs x cls, g t = some cls → DataW.trod enc P w base spare held fuel t cs = some x → Opens B w cls cs) :
    ∀ (fs : List Field) (off : Nat) (cls : List Cl), clF P g off fs = some cls → (∀ f ∈ fs, ∃ x, DataW.trod enc P w base spare held fuel f.type ((cs.drop f.offset).take (P.cellsOf f.type)) = some x) →
      Opens B w cls ((cs.drop off).take cls.length)
  | [], off, cls, h, _ => by
    simp only [clF, Option.some.injEq] at h
    subst h
    exact ⟨[], .nil, by simp [Both, oldL], by simp⟩
  | f :: fs, off, cls, h, hx => by
    unfold clF at h
    cases hg : g f.type with
    | none => rw [hg] at h; cases h
    | some c =>
      rw [hg] at h
      simp only at h
      split at h
      · rename_i hc
        obtain ⟨rfl, hc⟩ := hc
        cases hr : clF P g (f.offset + c.length) fs with
        | none => rw [hr] at h; cases h
        | some r =>
          rw [hr] at h
          simp only [Option.some.injEq] at h
          subst h
          obtain ⟨x, hx1⟩ := hx f (by simp)
          obtain ⟨t1, f1, b1, o1⟩ := ih _ _ _ _ hg hx1
          obtain ⟨t2, f2, b2, o2⟩ := open_fields B g ih fs _ r hr (fun f' hf' => hx f' (by simp [hf']))
          have hsplit : (cs.drop f.offset).take (c ++ r).length = (cs.drop f.offset).take c.length ++ (cs.drop (f.offset + c.length)).take r.length := by
            rw [List.length_append, List.take_add, List.drop_drop]
          rw [hsplit, hc]
          rw [hc] at b2 o2
          refine ⟨t1 ++ t2, f1.append f2, ?_, fun v hv => ?_⟩
          · rw [oldL_eq, List.map_append, ← oldL_eq, ← oldL_eq]; exact b1.app b2
          · rcases List.mem_append.1 hv with h | h
            · exact o1 v h
            · exact o2 v h
      · cases h
theorem open_cells (B : Nat) : ∀ (n fuel : Nat) (t : TypeId) (cs : List Value) (x : DataW H × List MemPlace) (cls : List Cl), clOf P n t = some cls → DataW.trod enc P w base spare held fuel t cs = some x → Opens B w cls cs
  | 0, _, _, _, _, _, h, _ => by cases h
  | n + 1, fuel, t, cs, x, cls, h, hx => by
    unfold clOf at h
    cases ht : P.underlying t with
    | none => rw [ht] at h; cases h
    | some u =>
      rw [ht] at h
      cases u with
      | string =>
        simp only [Option.some.injEq] at h; subst h
        obtain ⟨s, rfl, _, hs⟩ := DataW.trod_string ht hx
        exact Opens.one (.s s.data.toList) (.str _ hs .nil) (rep_string s) rfl
      | bool =>
        simp only [Option.some.injEq] at h; subst h
        cases fuel with
        | zero => simp [DataW.trod] at hx
        | succ m =>
          unfold DataW.trod at hx
          rw [ht] at hx
          split at hx <;> simp_all
          exact Opens.one (.v (.bool _)) (.bool _ .nil) (.val _) rfl
      | int k =>
        simp only [Option.some.injEq] at h; subst h
        obtain ⟨m, rfl, _, hm⟩ := DataW.trod_int ht hx
        exact Opens.one (.v (.int k m)) (.int _ _ hm .nil) (.val _) rfl
      | slice e =>
        simp only at h
        cases hc : clOf P n e with
        | none => rw [hc] at h; cases h
        | some c =>
          rw [hc] at h
          simp only at h
          split at h
          · rename_i hsz
            obtain ⟨hsz, hpos⟩ := hsz
            simp only [Option.some.injEq] at h; subst h
            rcases Go.Deep.open_slice ht hx with ⟨rfl, _⟩ | ⟨a, len, cap, m, k, D, Pl, rfl, _, hl, hm, hmm, _, hel⟩
            · refine Opens.one (.l e (P.cellsOf e) []) (.sl _ _ _ [] (Nat.zero_le _) hsz (by simp) .nil) ?_ rfl
              exact .list none [] none 0 0 0 0 (fun _ _ => undef) (Nat.le_refl _) (fun h => absurd rfl h) (by simp) (fun h => absurd rfl h) (by simp) (by simp) (fun k hk => by cases hk)
            · have hlm : len ≤ m := by rw [hmm]; split <;> omega
              obtain ⟨T, hT⟩ := Go.Deep.choose_lt (α := List Value × List Tr) (n := len) (p := fun i q => w.cells? base (a.add (i * P.cellsOf e)) (P.cellsOf e) = some q.1 ∧ FitsL c q.2 ∧
                  Both (Rep B w (allF w) [] [] []) (oldL q.2) q.1 ∧ ∀ v ∈ q.1, v.oneCell' = true) (fun i hi => by
                obtain ⟨cs', h1, h2⟩ := hel i (by omega)
                obtain ⟨trs, h3, h4, h5⟩ := open_cells B n k e cs' _ c hc h2
                exact ⟨(cs', trs), h1, h3, h4, h5⟩)
              have hlen : ((List.range len).map fun i => (T i).2).length = len := by simp
              refine Opens.one (.l e (P.cellsOf e) ((List.range len).map fun i => (T i).2)) (.sl _ _ _ _ (by rw [hlen]; omega) hsz (fun x hx => ?_) .nil) ?_ rfl
              · obtain ⟨i, hi, rfl⟩ := List.mem_map.1 hx
                exact (hT i (List.mem_range.1 hi)).2.1
              · have hol : (oldLL ((List.range len).map fun i => (T i).2)).length = len := by rw [length_oldLL, hlen]
                have hget : ∀ i e', (oldLL ((List.range len).map fun i => (T i).2))[i]? = some e' → i < len ∧ e' = oldL (T i).2 := by
                  intro i e' he
                  have hi : i < len := by have := getElem?_lt he; omega
                  rw [oldLL_eq] at he
                  simp [hi] at he
                  exact ⟨hi, by rw [oldL_eq]; exact he.symm⟩
                have hlenT : ∀ i, i < len → (oldL (T i).2).length = P.cellsOf e := fun i hi => by rw [oldL_eq, List.length_map, (hT i hi).2.1.length, hsz]
                have hcell : ∀ i j, i < len → j < P.cellsOf e → w.cell? ⟨a.block, a.off + i * P.cellsOf e + j, none⟩ = (T i).1[j]? ∧ a.spot = none := by
                  intro i j hi hj
                  obtain ⟨_, hl', hc'⟩ := World.cells?_some (hT i hi).1
                  have h0 : a.spot = none := by
                    obtain ⟨_, hl0, hc0⟩ := World.cells?_some (hT 0 (by omega)).1
                    have := hc0 0 hpos
                    rw [List.getElem?_eq_getElem (by omega)] at this
                    simp only [Nat.zero_mul, Addr.add, if_true] at this
                    unfold World.cell? at this
                    cases hs : a.spot with
                    | none => rfl
                    | some _ => rw [hs] at this; split at this <;> simp at this
                  refine ⟨?_, h0⟩
                  rw [← hc' j hj, Go.Deep.add_add]
                  unfold Addr.add
                  split
                  · rename_i hz
                    rw [show a.off + i * P.cellsOf e + j = a.off by omega]
                    cases a; simp only at h0; subst h0; rfl
                  · rw [Nat.add_assoc]
                have hrep := Rep.list (B := B) (w := w) (F := allF w) (tok := []) (fr := []) (box := []) none (oldLL ((List.range len).map fun i => (T i).2)) (some a) cap (P.cellsOf e) a.block a.off
                  (fun i j => (T i).1.getD j undef) (by rw [hol]; exact hl)
                  (fun hne => by
                    have : 0 < len := by
                      rcases Nat.eq_zero_or_pos len with h0 | h0
                      · subst h0; exact absurd rfl hne
                      · exact h0
                    have := (hcell 0 0 this hpos).2
                    cases a; simp only at this; subst this; rfl)
                  (fun e' he' => by
                    obtain ⟨i, hi⟩ := List.getElem?_of_mem he'
                    obtain ⟨h1, h2⟩ := hget i e' hi
                    rw [h2]; exact hlenT i h1)
                  (fun hne => by
                    have h0 : 0 < len := by
                      rcases Nat.eq_zero_or_pos len with h0 | h0
                      · subst h0; exact absurd rfl hne
                      · exact h0
                    rw [hol]
                    have hc := (hcell (len - 1) (P.cellsOf e - 1) (by omega) (by omega)).1
                    have hl1 : (T (len - 1)).1.length = P.cellsOf e := (World.cells?_some (hT (len - 1) (by omega)).1).2.1
                    rw [List.getElem?_eq_getElem (by omega)] at hc
                    unfold World.cell? at hc
                    unfold allF
                    simp only at hc
                    split at hc
                    · simp only [Option.isSome_none, Bool.false_eq_true, if_false] at hc
                      have hlt := (Array.getElem?_eq_some_iff.1 hc).1
                      have hmul : (len - 1) * P.cellsOf e + P.cellsOf e = len * P.cellsOf e := by
                        obtain ⟨q, rfl⟩ : ∃ q, len = q + 1 := ⟨len - 1, by omega⟩
                        rw [Nat.add_sub_cancel, Nat.add_mul]; omega
                      rename_i he
                      rw [he]
                      simp only
                      omega
                    · cases hc)
                  (fun i e' j c' hi hj => by
                    obtain ⟨h1, rfl⟩ := hget i e' hi
                    have hj' := getElem?_lt hj
                    rw [hlenT i h1] at hj'
                    have hl1 : (T i).1.length = P.cellsOf e := (World.cells?_some (hT i h1).1).2.1
                    have hg : (T i).1[j]? = some ((T i).1.getD j undef) := by simp [List.getD, hl1, hj']
                    exact ⟨by rw [(hcell i j h1 hj').1, hg], (hT i h1).2.2.2 _ (List.mem_of_getElem? hg)⟩)
                  (fun i e' j c' hi hj => by
                    obtain ⟨h1, rfl⟩ := hget i e' hi
                    have hj' := getElem?_lt hj
                    rw [hlenT i h1] at hj'
                    have hl1 : (T i).1.length = P.cellsOf e := (World.cells?_some (hT i h1).1).2.1
                    have hg : (T i).1[j]? = some ((T i).1.getD j undef) := by simp [List.getD, hl1, hj']
                    exact (hT i h1).2.2.1.2 j c' _ hj hg)
                  (fun k hk => by cases hk)
                rw [hol] at hrep
                exact hrep
          · cases h
      | struct fs =>
        simp only at h
        cases hc : clF P (clOf P n) 0 fs.toList with
        | none => rw [hc] at h; cases h
        | some c =>
          rw [hc] at h
          simp only at h
          split at h
          · rename_i hsz
            simp only [Option.some.injEq] at h; subst h
            obtain ⟨xs, m, rfl, _, hl, hfl, hel⟩ := DataW.trod_struct ht hx
            have := open_fields (fuel := m) (cs := cs) B (clOf P n) (fun t cs x cls h1 h2 => open_cells B n m t cs x cls h1 h2) fs.toList 0 c hc (fun f hf => by
              obtain ⟨i, hi⟩ := List.getElem?_of_mem hf
              have hi' : fs[i]? = some f := by simpa using hi
              have := hel i f hi'
              have hlt : i < xs.length := by have := getElem?_lt hi; simp at this; omega
              exact ⟨_, by rw [this, List.getElem?_eq_getElem hlt]⟩)
            rw [List.drop_zero, hsz, ← hl, List.take_length] at this
            exact this
          · cases h
      | _ => simp only at h; cases h
/-- an argument that is no struct -/
theorem open_arg {t : TypeId} {v : Value} {d : DataW H} {ps : List MemPlace} {r : Reach} {b0 : Nat} (B n : Nat) {cl : Cl} (hc : clOf P n t = some [cl]) (hs : ∀ fs, P.underlying t ≠ some (.struct fs)) (hval : Value.okWide P w r b0 t v)
    (h : DataW.Trod enc P w base spare held t v d ps) : ∃ x, FitsL [cl] [x] ∧ Rep B w (allF w) [] [] [] (old x) v := by
  obtain ⟨fuel, h⟩ := h
  obtain ⟨trs, h1, h2, h3⟩ := open_cells B n fuel t _ _ _ hc h
  have hv : v.cells.toList = [v] := by
    cases v with
    | agg cs =>
      exfalso
      unfold Value.okWide at hval
      cases n with
      | zero => cases hc
      | succ n =>
        unfold clOf at hc
        cases hu : P.underlying t with
        | none => rw [hu] at hc; cases hc
        | some u =>
          rw [hu] at hc hval hs
          cases u <;> first | cases hc; done | exact absurd rfl (hs _) | (simp only [Cell.okWide, hu, Cell.ok] at hval)
    | _ => rfl
  rw [hv] at h2
  cases trs with
  | nil => exact absurd h1.length (by simp)
  | cons x xs =>
    cases xs with
    | cons _ _ => exact absurd h1.length (by simp)
    | nil => exact ⟨x, h1, (Both.cons.1 h2).1⟩
end
end Abs
end Go.Proofs.YtakojclbmhphnaaDoor
namespace Go.Proofs.YtakojclbmhphnaaDoor
namespace Abs
variable {mo : Bool}
open Go.ChangeShapes Go.WideShapes Go.ChangeAt Go.RowKit
section
variable {H : Type} {enc : TypeId × Value → H} {P : Program}
theorem trodAll_stays {base : Nat} (hl : laidOutB P = true) {W W' : World} {sp' : Nat → Bool} : ∀ {ts : List TypeId} {vs : List Value} {ds : List (DataW H)} {ps : List MemPlace},
    (∀ t ∈ ts, P.readableRec t = true ∧ t < P.types.size) → DataW.TrodAll enc P W base (fun _ => true) true ts vs ds ps → (∀ p ∈ ps, W.sameAt W' p) → (∀ p ∈ ps, sp' p.block = true) →
    DataW.TrodAll enc P W' base sp' true ts vs ds ps
  | [], [], [], _, _, h, _, _ => h
  | t :: ts, v :: vs, d :: ds, _, ht, h, hs, hp => by
    obtain ⟨p, q, h1, h2, rfl⟩ := h
    exact ⟨p, q, WideElems.Trod_stays hl (ht t (by simp)).1 (ht t (by simp)).2 h1 (fun x hx => hs x (by simp [hx])) (fun x hx => hp x (by simp [hx])),
      trodAll_stays hl (fun t h => ht t (by simp [h])) h2 (fun x hx => hs x (by simp [hx])) (fun x hx => hp x (by simp [hx])), rfl⟩
/-- a law that says yes, and leaves what was there alone -/
theorem law_post {f : Func} {s : ChangeSpec} {apart fresh handsOn again : Bool} {W W' : World} {args : Array Value} {ds gs : List (DataW H)} {before : List MemPlace} {tb : TypeId}
    (hl : laidOutB P = true) (hv : s.vars = []) (hp : ∀ t ∈ f.params.toList, P.readableRec t = true ∧ t < P.types.size) (hr : f.resultTypes = #[tb]) (htb : P.underlying tb = some .bool)
    (hW : DataW.Whole enc P f.params.toList s.vars apart W args.toList ds gs before) (hb : Bel mo W.heap.size W W')
    (hfn : s.fn H (ds ++ gs) = { results := [.lit (.bool true)], args := ds }) : s.post enc P f apart fresh handsOn again W args (.bool true) W' := by
  have hlt : ∀ p ∈ before, p.block < W.heap.size := fun p hp => hW.lt p hp
  have hW' := hW
  obtain ⟨p, q, hA, hV, hpq, hz, hn⟩ := hW
  rw [hv] at hV
  obtain ⟨hg, hq⟩ : gs = [] ∧ q = [] := trodVars_none hV
  subst hg; subst hq
  simp only [List.append_nil] at hpq hfn hz hn
  subst hpq
  have hargs : ∀ sp : Nat → Bool, (∀ x ∈ before, sp x.block = true) → DataW.TrodAll enc P W' 0 sp true f.params.toList args.toList ds before :=
    fun sp hsp => trodAll_stays hl hp hA (fun x hx => hb.same (hlt x hx)) hsp
  have hres : ∀ (b : Nat) (sp : Nat → Bool) (hd : Bool), DataW.TrodAll enc P W' b sp hd f.resultTypes.toList ((Value.bool true).resultList f.resultTypes.size) [.lit (.bool true)] [] := fun b sp hd => by
    rw [hr]
    exact trodAll_mk1 (shut_bool htb true)
  have hvars : ∀ sp : Nat → Bool, DataW.TrodVars enc P W' sp s.vars [] [] := fun sp => by rw [hv]; rfl
  have hfn' : s.fn H (ds ++ []) = { results := [.lit (.bool true)], args := ds } := by rw [List.append_nil]; exact hfn
  refine ⟨ds, [], before, [], before, [], hW', by rw [hfn']; exact hres _ _ _, by rw [hfn']; exact hargs _ (fun x hx => by simpa using hlt x hx), by rw [hfn']; exact hvars _, hb.frame _, fun _ => ?_⟩
  refine ⟨ok_one hr rfl (okWide_bool_mk htb true), _, _, ([] ++ before) ++ [], ⟨[] ++ before, [], trodAll_append (hargs _ (fun _ _ => rfl)) (hres _ _ _), hvars _, rfl, ?_, ?_⟩, ?_⟩
  · intro b off hp'
    have hm : MemPlace.cell b off ∈ before := by simpa using hp'
    rw [hb.frozen (hlt _ hm)]
    exact hz b off hm
  · intro ha
    simpa using hn ha
  · intro x hx _
    simpa using hx
end
/-- the call's own result -/
theorem law_ret {P : Program} {fid : Nat} {avs : List AV} {args : Array Value} {W : World} (h : Ret mo P fid avs (.val (.bool true)) []) (hc : CondB W []) (hB : Both (Rep W.heap.size W (allF W) [] [] []) avs args.toList) :
    Calls P fid args W fun e w' => e = .returned (.bool true) ∧ Bel mo W.heap.size W w' := by
  rw [Ret_eq] at h
  obtain ⟨_, hR⟩ := h
  refine (hR W (allF W) args hc (fun b hb => allF_out W b hb) hB).mono ?_
  rintro e W' ⟨v, F', tok, box, rfl, hb, _, _, _, _, _, hrep⟩
  cases hrep
  exact ⟨rfl, hb⟩
theorem both_nil {R : AV → Value → Prop} : Both R [] [] := ⟨rfl, by simp⟩
end Abs
theorem Abs.own : ownKnob Tryd.prog.godebug = none := by kernel_rfl
end Go.Proofs.YtakojclbmhphnaaDoor
namespace Go.Proofs.YtakojclbmhphnaaDoor
open Abs
theorem Abs.pow_data : (Rows.laid_internal_strconv_uint64pow10 : DataW Unit) = Lib.tabData .u64 Lib.pow10Tab := by kernel_rfl
theorem Abs.cond_of {W : World} {cs : Array Value} {enc : TypeId × Value → Unit} {base : Nat} {sp : Nat → Bool} {held : Bool} {fuel : Nat} {q : List MemPlace} (hv : W.var? Tryd.prog "internal/strconv.uint64pow10" = some cs)
    (hd : DataW.trod enc Tryd.prog W base sp held fuel 70 cs.toList = some (Rows.laid_internal_strconv_uint64pow10, q)) : CondB W [] := by
  rw [Abs.pow_data] at hd
  have hc := Lib.cells_of_tab (n := 20) (e := 59) (by kernel_rfl) (by kernel_rfl) (by kernel_rfl) (by kernel_rfl) hd
  intro p hp
  rw [List.mem_singleton.1 hp]
  refine ⟨?_, fun j c hj => by simp at hj⟩
  unfold World.var? at hv
  rw [show Tryd.prog.globalNamed "internal/strconv.uint64pow10" = some 0 by kernel_rfl, Option.bind_some] at hv
  split at hv
  · rename_i c t m h
    cases hv
    exact ⟨t, m, by rw [h]; congr 2; rw [← hc]⟩
  · cases hv
end Go.Proofs.YtakojclbmhphnaaDoor
