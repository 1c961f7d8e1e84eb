/-
  What stands below some laws' proofs, part 1: contracts of functions, by an evaluator.
-/
import Derived.Test.YtfnejdkkhpjhmaaGreatDoorK5
import Derived.Laws.RangeAny
import Derived.Shelf.Strings.Builder1
import Derived.Shelf.Strings.Builder2
import Derived.Shelf.Strings.OnBuilder
import Derived.Shelf.Small.Bits
import Derived.Shelf.Small.Wraps
import Derived.Shelf.Strings.BuilderF
import Derived.Shelf.Strings.Builder2Cap
import Derived.Shelf.Strconv.Itoa0
import Derived.Shelf.Strconv.Itoa1
import Derived.Shelf.LaysM
import Derived.Shelf.Strconv.Itoa2
import Derived.Shelf.Strconv.Itoa3
import Derived.Shelf.Sort.Plain
import Derived.Shelf.Strings.Prefix
import Derived.Shelf.Slices.Turned
import Derived.Shelf.Slices.Equal
import Derived.Ground.Names2Prog
import Derived.Shelf.Slices.Clone
import Derived.Shelf.Slices.CompactS
import Derived.Shelf.Slices.SearchI
import Derived.Shelf.Slices.Cells
import Derived.Shelf.Slices.In.SortNone
import Derived.Shelf.Slices.Empties2
import Derived.Ground.SlgnProg
import Derived.Shelf.SlicesE.Clone
import Derived.Test.YtfnejdkkhpjhmaaGreatDoorProg
import Derived.Sort.Row
import Derived.Sort.Grow
import Derived.Lib.SlicesCompact
import Derived.Sort.Statements
import Derived.Shelf.SlIter.Nil
import Derived.Shelf.SortM.Plain
import Derived.Shelf.SortM.SortNone
import Derived.Ground.GgzProg
import Derived.Ground.SlgmProg
import Derived.Maps.Own
import Derived.Shelf.Spec.SlicesGrow
import Derived.Ground.Names8Prog
import Derived.Test.YtfnejdkkhpjhmaaGreatDoorRows
import Derived.ProofKit
import Derived.Deep.Slices
import Derived.Test.YtfnejdkkhpjhmaaGreatDoorTie
import Derived.Test.YtfnejdkkhpjhmaaGreatDoorCards
import Derived.Lib.LaidTab
import Derived.LaidMore
import Derived.MakeChecks
import Derived.SevenTiedAt
namespace Go.Proofs.YtfnejdkkhpjhmaaGreatDoor
open Abs
def eqAction.code : ACode := (.seq (.region false [s 2 (.box (t 0)), s 3 (.box (t 1)), s 4 (.mv (.const (.bool false)))]) (.seq (.seq (.region false [s 5 (.fadr 0 (t 2)), s 6 (.load false 1 (t 5)), s 7 (.fadr 0 (t 3)), s 8 (.load false 1 (t 7)), s 9 (.bin .neq (t 6) (t 8))]) (.cond (t 9) (.seq (.region false [s 4 (.mv (.const (.bool false)))]) .ret) .skip)) (.seq (.seq (.region false [s 10 (.fadr 1 (t 2)), s 11 (.load true 2 (t 10)), s 12 (.fadr 1 (t 3)), s 13 (.load true 2 (t 12)), s 14 (.call 184 [(t 11), (t 13)]), s 15 (.not (t 14))]) (.cond (t 15) (.seq (.region false [s 4 (.mv (.const (.bool false)))]) .ret) .skip)) (.seq (.region false [s 4 (.mv (.const (.bool true)))]) .ret))))
def eqAction.keep : List Nat := [0, 1, 2, 3, 4]
def eqAction.res : List RRes := [.tmp 4]
theorem eqAction.of {mo : Bool} {args : List AV} {r : AV} {frs : Fr} (hn : Nat.ble args.length Tryz.f188.ntmps = true) (h : aCode (Kn mo Tryz.prog) eqAction.keep 0 eqAction.code (doneK eqAction.res r frs) ⟨argEnv 0 args, [], []⟩) : Abs.Ret mo Tryz.prog 188 args r frs :=
  Abs.Ret.of_ir Tryz.func188 rfl (by kernel_rfl) (Nat.le_of_ble_eq_true hn) (by kernel_rfl) (by kernel_rfl) h
abbrev eqAction.Ret (args : List AV) (r : AV) (frs : Fr) : Prop := Abs.Ret true Tryz.prog 188 args r frs
def eqActionS.code : ACode := (.seq (.region false [s 4 (.mv (.const (.bool false)))]) (.seq (.seq (.region false [s 6 (.mv (t 0)), s 7 (.len false (t 6)), s 8 (.mv (t 1)), s 9 (.len false (t 8)), s 10 (.bin .neq (t 7) (t 9))]) (.cond (t 10) (.seq (.region false [s 4 (.mv (.const (.bool false)))]) .ret) .skip)) (.seq (.seq (.region false [s 5 (.mv (.const (.int .i64 0)))]) (.block 0 (.loop (.seq (.seq (.region false [s 11 (.mv (t 5)), s 12 (.mv (t 0)), s 13 (.len false (t 12)), s 14 (.bin .lss (t 11) (t 13))]) (.cond (t 14) .skip (.exit 0))) (.seq (.block 1 (.seq (.region true [s 17 (.mv (t 0)), s 18 (.mv (t 5)), s 19 (.iadr 3 (t 17) (t 18)), s 20 (.load true 3 (t 19)), s 21 (.mv (t 1)), s 22 (.mv (t 5)), s 23 (.iadr 3 (t 21) (t 22)), s 24 (.load true 3 (t 23)), s 25 (.call 188 [(t 20), (t 24)]), s 26 (.not (t 25))]) (.cond (t 26) (.seq (.region false [s 4 (.mv (.const (.bool false)))]) .ret) .skip))) (.region false [s 15 (.mv (t 5)), s 16 (.bin .add (t 15) (.const (.int .i64 1))), s 5 (.mv (t 16))])))))) (.seq (.region false [s 4 (.mv (.const (.bool true)))]) .ret))))
def eqActionS.keep : List Nat := [0, 1, 4, 5]
def eqActionS.res : List RRes := [.tmp 4]
theorem eqActionS.of {mo : Bool} {args : List AV} {r : AV} {frs : Fr} (hn : Nat.ble args.length Tryz.f108.ntmps = true) (h : aCode (Kn mo Tryz.prog) eqActionS.keep 0 eqActionS.code (doneK eqActionS.res r frs) ⟨argEnv 0 args, [], []⟩) : Abs.Ret mo Tryz.prog 108 args r frs :=
  Abs.Ret.of_ir Tryz.func108 rfl (by kernel_rfl) (Nat.le_of_ble_eq_true hn) (by kernel_rfl) (by kernel_rfl) h
abbrev eqActionS.Ret (args : List AV) (r : AV) (frs : Fr) : Prop := Abs.Ret true Tryz.prog 108 args r frs
def eqAlpha.code : ACode := (.seq (.region false [s 2 (.box (t 0)), s 3 (.box (t 1)), s 4 (.mv (.const (.bool false)))]) (.seq (.seq (.region false [s 5 (.fadr 0 (t 2)), s 6 (.load true 2 (t 5)), s 7 (.fadr 0 (t 3)), s 8 (.load true 2 (t 7)), s 9 (.call 184 [(t 6), (t 8)]), s 10 (.not (t 9))]) (.cond (t 10) (.seq (.region false [s 4 (.mv (.const (.bool false)))]) .ret) .skip)) (.seq (.seq (.region false [s 11 (.fadr 2 (t 2)), s 12 (.load false 1 (t 11)), s 13 (.fadr 2 (t 3)), s 14 (.load false 1 (t 13)), s 15 (.call 41 [(t 12), (t 14)]), s 16 (.not (t 15))]) (.cond (t 16) (.seq (.region false [s 4 (.mv (.const (.bool false)))]) .ret) .skip)) (.seq (.region false [s 4 (.mv (.const (.bool true)))]) .ret))))
def eqAlpha.keep : List Nat := [0, 1, 2, 3, 4]
def eqAlpha.res : List RRes := [.tmp 4]
theorem eqAlpha.of {mo : Bool} {args : List AV} {r : AV} {frs : Fr} (hn : Nat.ble args.length Tryz.f104.ntmps = true) (h : aCode (Kn mo Tryz.prog) eqAlpha.keep 0 eqAlpha.code (doneK eqAlpha.res r frs) ⟨argEnv 0 args, [], []⟩) : Abs.Ret mo Tryz.prog 104 args r frs :=
  Abs.Ret.of_ir Tryz.func104 rfl (by kernel_rfl) (Nat.le_of_ble_eq_true hn) (by kernel_rfl) (by kernel_rfl) h
abbrev eqAlpha.Ret (args : List AV) (r : AV) (frs : Fr) : Prop := Abs.Ret true Tryz.prog 104 args r frs
def eqAlphaS.code : ACode := (.seq (.region false [s 4 (.mv (.const (.bool false)))]) (.seq (.seq (.region false [s 6 (.mv (t 0)), s 7 (.len false (t 6)), s 8 (.mv (t 1)), s 9 (.len false (t 8)), s 10 (.bin .neq (t 7) (t 9))]) (.cond (t 10) (.seq (.region false [s 4 (.mv (.const (.bool false)))]) .ret) .skip)) (.seq (.seq (.region false [s 5 (.mv (.const (.int .i64 0)))]) (.block 0 (.loop (.seq (.seq (.region false [s 11 (.mv (t 5)), s 12 (.mv (t 0)), s 13 (.len false (t 12)), s 14 (.bin .lss (t 11) (t 13))]) (.cond (t 14) .skip (.exit 0))) (.seq (.block 1 (.seq (.region true [s 17 (.mv (t 0)), s 18 (.mv (t 5)), s 19 (.iadr 3 (t 17) (t 18)), s 20 (.load true 3 (t 19)), s 21 (.mv (t 1)), s 22 (.mv (t 5)), s 23 (.iadr 3 (t 21) (t 22)), s 24 (.load true 3 (t 23)), s 25 (.call 104 [(t 20), (t 24)]), s 26 (.not (t 25))]) (.cond (t 26) (.seq (.region false [s 4 (.mv (.const (.bool false)))]) .ret) .skip))) (.region false [s 15 (.mv (t 5)), s 16 (.bin .add (t 15) (.const (.int .i64 1))), s 5 (.mv (t 16))])))))) (.seq (.region false [s 4 (.mv (.const (.bool true)))]) .ret))))
def eqAlphaS.keep : List Nat := [0, 1, 4, 5]
def eqAlphaS.res : List RRes := [.tmp 4]
theorem eqAlphaS.of {mo : Bool} {args : List AV} {r : AV} {frs : Fr} (hn : Nat.ble args.length Tryz.f39.ntmps = true) (h : aCode (Kn mo Tryz.prog) eqAlphaS.keep 0 eqAlphaS.code (doneK eqAlphaS.res r frs) ⟨argEnv 0 args, [], []⟩) : Abs.Ret mo Tryz.prog 39 args r frs :=
  Abs.Ret.of_ir Tryz.func39 rfl (by kernel_rfl) (Nat.le_of_ble_eq_true hn) (by kernel_rfl) (by kernel_rfl) h
abbrev eqAlphaS.Ret (args : List AV) (r : AV) (frs : Fr) : Prop := Abs.Ret true Tryz.prog 39 args r frs
def eqCond.code : ACode := (.seq (.region false [s 2 (.box (t 0)), s 3 (.box (t 1)), s 4 (.mv (.const (.bool false)))]) (.seq (.seq (.region false [s 5 (.fadr 0 (t 2)), s 6 (.load false 1 (t 5)), s 7 (.fadr 0 (t 3)), s 8 (.load false 1 (t 7)), s 9 (.bin .neq (t 6) (t 8))]) (.cond (t 9) (.seq (.region false [s 4 (.mv (.const (.bool false)))]) .ret) .skip)) (.seq (.seq (.region false [s 10 (.fadr 1 (t 2)), s 11 (.load true 2 (t 10)), s 12 (.fadr 1 (t 3)), s 13 (.load true 2 (t 12)), s 14 (.call 184 [(t 11), (t 13)]), s 15 (.not (t 14))]) (.cond (t 15) (.seq (.region false [s 4 (.mv (.const (.bool false)))]) .ret) .skip)) (.seq (.seq (.region false [s 16 (.fadr 3 (t 2)), s 17 (.load false 1 (t 16)), s 18 (.fadr 3 (t 3)), s 19 (.load false 1 (t 18)), s 20 (.bin .neq (t 17) (t 19))]) (.cond (t 20) (.seq (.region false [s 4 (.mv (.const (.bool false)))]) .ret) .skip)) (.seq (.seq (.region false [s 21 (.fadr 4 (t 2)), s 22 (.load false 1 (t 21)), s 23 (.fadr 4 (t 3)), s 24 (.load false 1 (t 23)), s 25 (.bin .neq (t 22) (t 24))]) (.cond (t 25) (.seq (.region false [s 4 (.mv (.const (.bool false)))]) .ret) .skip)) (.seq (.region false [s 4 (.mv (.const (.bool true)))]) .ret))))))
def eqCond.keep : List Nat := [0, 1, 2, 3, 4]
def eqCond.res : List RRes := [.tmp 4]
theorem eqCond.of {mo : Bool} {args : List AV} {r : AV} {frs : Fr} (hn : Nat.ble args.length Tryz.f185.ntmps = true) (h : aCode (Kn mo Tryz.prog) eqCond.keep 0 eqCond.code (doneK eqCond.res r frs) ⟨argEnv 0 args, [], []⟩) : Abs.Ret mo Tryz.prog 185 args r frs :=
  Abs.Ret.of_ir Tryz.func185 rfl (by kernel_rfl) (Nat.le_of_ble_eq_true hn) (by kernel_rfl) (by kernel_rfl) h
abbrev eqCond.Ret (args : List AV) (r : AV) (frs : Fr) : Prop := Abs.Ret true Tryz.prog 185 args r frs
def eqCondS.code : ACode := (.seq (.region false [s 4 (.mv (.const (.bool false)))]) (.seq (.seq (.region false [s 6 (.mv (t 0)), s 7 (.len false (t 6)), s 8 (.mv (t 1)), s 9 (.len false (t 8)), s 10 (.bin .neq (t 7) (t 9))]) (.cond (t 10) (.seq (.region false [s 4 (.mv (.const (.bool false)))]) .ret) .skip)) (.seq (.seq (.region false [s 5 (.mv (.const (.int .i64 0)))]) (.block 0 (.loop (.seq (.seq (.region false [s 11 (.mv (t 5)), s 12 (.mv (t 0)), s 13 (.len false (t 12)), s 14 (.bin .lss (t 11) (t 13))]) (.cond (t 14) .skip (.exit 0))) (.seq (.block 1 (.seq (.region true [s 17 (.mv (t 0)), s 18 (.mv (t 5)), s 19 (.iadr 5 (t 17) (t 18)), s 20 (.load true 5 (t 19)), s 21 (.mv (t 1)), s 22 (.mv (t 5)), s 23 (.iadr 5 (t 21) (t 22)), s 24 (.load true 5 (t 23)), s 25 (.call 185 [(t 20), (t 24)]), s 26 (.not (t 25))]) (.cond (t 26) (.seq (.region false [s 4 (.mv (.const (.bool false)))]) .ret) .skip))) (.region false [s 15 (.mv (t 5)), s 16 (.bin .add (t 15) (.const (.int .i64 1))), s 5 (.mv (t 16))])))))) (.seq (.region false [s 4 (.mv (.const (.bool true)))]) .ret))))
def eqCondS.keep : List Nat := [0, 1, 4, 5]
def eqCondS.res : List RRes := [.tmp 4]
theorem eqCondS.of {mo : Bool} {args : List AV} {r : AV} {frs : Fr} (hn : Nat.ble args.length Tryz.f107.ntmps = true) (h : aCode (Kn mo Tryz.prog) eqCondS.keep 0 eqCondS.code (doneK eqCondS.res r frs) ⟨argEnv 0 args, [], []⟩) : Abs.Ret mo Tryz.prog 107 args r frs :=
  Abs.Ret.of_ir Tryz.func107 rfl (by kernel_rfl) (Nat.le_of_ble_eq_true hn) (by kernel_rfl) (by kernel_rfl) h
abbrev eqCondS.Ret (args : List AV) (r : AV) (frs : Fr) : Prop := Abs.Ret true Tryz.prog 107 args r frs
def eqFact.code : ACode := (.seq (.region false [s 2 (.box (t 0)), s 3 (.box (t 1)), s 4 (.mv (.const (.bool false)))]) (.seq (.seq (.region false [s 5 (.fadr 0 (t 2)), s 6 (.load false 1 (t 5)), s 7 (.fadr 0 (t 3)), s 8 (.load false 1 (t 7)), s 9 (.bin .neq (t 6) (t 8))]) (.cond (t 9) (.seq (.region false [s 4 (.mv (.const (.bool false)))]) .ret) .skip)) (.seq (.seq (.region false [s 10 (.fadr 1 (t 2)), s 11 (.load false 1 (t 10)), s 12 (.fadr 1 (t 3)), s 13 (.load false 1 (t 12)), s 14 (.call 187 [(t 11), (t 13)]), s 15 (.not (t 14))]) (.cond (t 15) (.seq (.region false [s 4 (.mv (.const (.bool false)))]) .ret) .skip)) (.seq (.region false [s 4 (.mv (.const (.bool true)))]) .ret))))
def eqFact.keep : List Nat := [0, 1, 2, 3, 4]
def eqFact.res : List RRes := [.tmp 4]
theorem eqFact.of {mo : Bool} {args : List AV} {r : AV} {frs : Fr} (hn : Nat.ble args.length Tryz.f106.ntmps = true) (h : aCode (Kn mo Tryz.prog) eqFact.keep 0 eqFact.code (doneK eqFact.res r frs) ⟨argEnv 0 args, [], []⟩) : Abs.Ret mo Tryz.prog 106 args r frs :=
  Abs.Ret.of_ir Tryz.func106 rfl (by kernel_rfl) (Nat.le_of_ble_eq_true hn) (by kernel_rfl) (by kernel_rfl) h
abbrev eqFact.Ret (args : List AV) (r : AV) (frs : Fr) : Prop := Abs.Ret true Tryz.prog 106 args r frs
def eqFactS.code : ACode := (.seq (.region false [s 4 (.mv (.const (.bool false)))]) (.seq (.seq (.region false [s 6 (.mv (t 0)), s 7 (.len false (t 6)), s 8 (.mv (t 1)), s 9 (.len false (t 8)), s 10 (.bin .neq (t 7) (t 9))]) (.cond (t 10) (.seq (.region false [s 4 (.mv (.const (.bool false)))]) .ret) .skip)) (.seq (.seq (.region false [s 5 (.mv (.const (.int .i64 0)))]) (.block 0 (.loop (.seq (.seq (.region false [s 11 (.mv (t 5)), s 12 (.mv (t 0)), s 13 (.len false (t 12)), s 14 (.bin .lss (t 11) (t 13))]) (.cond (t 14) .skip (.exit 0))) (.seq (.block 1 (.seq (.region true [s 17 (.mv (t 0)), s 18 (.mv (t 5)), s 19 (.iadr 2 (t 17) (t 18)), s 20 (.load true 2 (t 19)), s 21 (.mv (t 1)), s 22 (.mv (t 5)), s 23 (.iadr 2 (t 21) (t 22)), s 24 (.load true 2 (t 23)), s 25 (.call 106 [(t 20), (t 24)]), s 26 (.not (t 25))]) (.cond (t 26) (.seq (.region false [s 4 (.mv (.const (.bool false)))]) .ret) .skip))) (.region false [s 15 (.mv (t 5)), s 16 (.bin .add (t 15) (.const (.int .i64 1))), s 5 (.mv (t 16))])))))) (.seq (.region false [s 4 (.mv (.const (.bool true)))]) .ret))))
def eqFactS.keep : List Nat := [0, 1, 4, 5]
def eqFactS.res : List RRes := [.tmp 4]
theorem eqFactS.of {mo : Bool} {args : List AV} {r : AV} {frs : Fr} (hn : Nat.ble args.length Tryz.f41.ntmps = true) (h : aCode (Kn mo Tryz.prog) eqFactS.keep 0 eqFactS.code (doneK eqFactS.res r frs) ⟨argEnv 0 args, [], []⟩) : Abs.Ret mo Tryz.prog 41 args r frs :=
  Abs.Ret.of_ir Tryz.func41 rfl (by kernel_rfl) (Nat.le_of_ble_eq_true hn) (by kernel_rfl) (by kernel_rfl) h
abbrev eqFactS.Ret (args : List AV) (r : AV) (frs : Fr) : Prop := Abs.Ret true Tryz.prog 41 args r frs
def eqIntS.code : ACode := (.seq (.region false [s 4 (.mv (.const (.bool false)))]) (.seq (.seq (.region false [s 6 (.mv (t 0)), s 7 (.len false (t 6)), s 8 (.mv (t 1)), s 9 (.len false (t 8)), s 10 (.bin .neq (t 7) (t 9))]) (.cond (t 10) (.seq (.region false [s 4 (.mv (.const (.bool false)))]) .ret) .skip)) (.seq (.seq (.region false [s 5 (.mv (.const (.int .i64 0)))]) (.block 0 (.loop (.seq (.seq (.region false [s 11 (.mv (t 5)), s 12 (.mv (t 0)), s 13 (.len false (t 12)), s 14 (.bin .lss (t 11) (t 13))]) (.cond (t 14) .skip (.exit 0))) (.seq (.block 1 (.seq (.region true [s 17 (.mv (t 0)), s 18 (.mv (t 5)), s 19 (.iadr 1 (t 17) (t 18)), s 20 (.load false 1 (t 19)), s 21 (.mv (t 1)), s 22 (.mv (t 5)), s 23 (.iadr 1 (t 21) (t 22)), s 24 (.load false 1 (t 23)), s 25 (.bin .neq (t 20) (t 24))]) (.cond (t 25) (.seq (.region false [s 4 (.mv (.const (.bool false)))]) .ret) .skip))) (.region false [s 15 (.mv (t 5)), s 16 (.bin .add (t 15) (.const (.int .i64 1))), s 5 (.mv (t 16))])))))) (.seq (.region false [s 4 (.mv (.const (.bool true)))]) .ret))))
def eqIntS.keep : List Nat := [0, 1, 4, 5]
def eqIntS.res : List RRes := [.tmp 4]
theorem eqIntS.of {mo : Bool} {args : List AV} {r : AV} {frs : Fr} (hn : Nat.ble args.length Tryz.f38.ntmps = true) (h : aCode (Kn mo Tryz.prog) eqIntS.keep 0 eqIntS.code (doneK eqIntS.res r frs) ⟨argEnv 0 args, [], []⟩) : Abs.Ret mo Tryz.prog 38 args r frs :=
  Abs.Ret.of_ir Tryz.func38 rfl (by kernel_rfl) (Nat.le_of_ble_eq_true hn) (by kernel_rfl) (by kernel_rfl) h
abbrev eqIntS.Ret (args : List AV) (r : AV) (frs : Fr) : Prop := Abs.Ret true Tryz.prog 38 args r frs
def eqNetwork.code : ACode := (.seq (.region false [s 2 (.box (t 0)), s 3 (.box (t 1)), s 4 (.mv (.const (.bool false)))]) (.seq (.seq (.region false [s 5 (.fadr 0 (t 2)), s 6 (.load false 1 (t 5)), s 7 (.fadr 0 (t 3)), s 8 (.load false 1 (t 7)), s 9 (.call 13 [(t 6), (t 8)]), s 10 (.not (t 9))]) (.cond (t 10) (.seq (.region false [s 4 (.mv (.const (.bool false)))]) .ret) .skip)) (.seq (.seq (.region false [s 11 (.fadr 1 (t 2)), s 12 (.load false 1 (t 11)), s 13 (.fadr 1 (t 3)), s 14 (.load false 1 (t 13)), s 15 (.call 38 [(t 12), (t 14)]), s 16 (.not (t 15))]) (.cond (t 16) (.seq (.region false [s 4 (.mv (.const (.bool false)))]) .ret) .skip)) (.seq (.seq (.region false [s 17 (.fadr 2 (t 2)), s 18 (.load false 1 (t 17)), s 19 (.fadr 2 (t 3)), s 20 (.load false 1 (t 19)), s 21 (.call 39 [(t 18), (t 20)]), s 22 (.not (t 21))]) (.cond (t 22) (.seq (.region false [s 4 (.mv (.const (.bool false)))]) .ret) .skip)) (.seq (.seq (.region false [s 23 (.fadr 3 (t 2)), s 24 (.load false 1 (t 23)), s 25 (.fadr 3 (t 3)), s 26 (.load false 1 (t 25)), s 27 (.call 40 [(t 24), (t 26)]), s 28 (.not (t 27))]) (.cond (t 28) (.seq (.region false [s 4 (.mv (.const (.bool false)))]) .ret) .skip)) (.seq (.seq (.region false [s 29 (.fadr 4 (t 2)), s 30 (.load false 1 (t 29)), s 31 (.fadr 4 (t 3)), s 32 (.load false 1 (t 31)), s 33 (.call 41 [(t 30), (t 32)]), s 34 (.not (t 33))]) (.cond (t 34) (.seq (.region false [s 4 (.mv (.const (.bool false)))]) .ret) .skip)) (.seq (.seq (.region false [s 35 (.fadr 5 (t 2)), s 36 (.load false 1 (t 35)), s 37 (.fadr 5 (t 3)), s 38 (.load false 1 (t 37)), s 39 (.bin .neq (t 36) (t 38))]) (.cond (t 39) (.seq (.region false [s 4 (.mv (.const (.bool false)))]) .ret) .skip)) (.seq (.region false [s 4 (.mv (.const (.bool true)))]) .ret))))))))
def eqNetwork.keep : List Nat := [0, 1, 2, 3, 4]
def eqNetwork.res : List RRes := [.tmp 4]
theorem eqNetwork.of {mo : Bool} {args : List AV} {r : AV} {frs : Fr} (hn : Nat.ble args.length Tryz.f12.ntmps = true) (h : aCode (Kn mo Tryz.prog) eqNetwork.keep 0 eqNetwork.code (doneK eqNetwork.res r frs) ⟨argEnv 0 args, [], []⟩) : Abs.Ret mo Tryz.prog 12 args r frs :=
  Abs.Ret.of_ir Tryz.func12 rfl (by kernel_rfl) (Nat.le_of_ble_eq_true hn) (by kernel_rfl) (by kernel_rfl) h
abbrev eqNetwork.Ret (args : List AV) (r : AV) (frs : Fr) : Prop := Abs.Ret true Tryz.prog 12 args r frs
def eqNode.code : ACode := (.seq (.region false [s 2 (.box (t 0)), s 3 (.box (t 1)), s 4 (.mv (.const (.bool false)))]) (.seq (.seq (.region false [s 5 (.fadr 0 (t 2)), s 6 (.load false 1 (t 5)), s 7 (.fadr 0 (t 3)), s 8 (.load false 1 (t 7)), s 9 (.bin .neq (t 6) (t 8))]) (.cond (t 9) (.seq (.region false [s 4 (.mv (.const (.bool false)))]) .ret) .skip)) (.seq (.seq (.region false [s 10 (.fadr 1 (t 2)), s 11 (.load true 5 (t 10)), s 12 (.fadr 1 (t 3)), s 13 (.load true 5 (t 12)), s 14 (.call 185 [(t 11), (t 13)]), s 15 (.not (t 14))]) (.cond (t 15) (.seq (.region false [s 4 (.mv (.const (.bool false)))]) .ret) .skip)) (.seq (.seq (.region false [s 16 (.fadr 6 (t 2)), s 17 (.load false 1 (t 16)), s 18 (.fadr 6 (t 3)), s 19 (.load false 1 (t 18)), s 20 (.bin .neq (t 17) (t 19))]) (.cond (t 20) (.seq (.region false [s 4 (.mv (.const (.bool false)))]) .ret) .skip)) (.seq (.seq (.region false [s 21 (.fadr 7 (t 2)), s 22 (.load false 1 (t 21)), s 23 (.fadr 7 (t 3)), s 24 (.load false 1 (t 23)), s 25 (.call 186 [(t 22), (t 24)]), s 26 (.not (t 25))]) (.cond (t 26) (.seq (.region false [s 4 (.mv (.const (.bool false)))]) .ret) .skip)) (.seq (.region false [s 4 (.mv (.const (.bool true)))]) .ret))))))
def eqNode.keep : List Nat := [0, 1, 2, 3, 4]
def eqNode.res : List RRes := [.tmp 4]
theorem eqNode.of {mo : Bool} {args : List AV} {r : AV} {frs : Fr} (hn : Nat.ble args.length Tryz.f105.ntmps = true) (h : aCode (Kn mo Tryz.prog) eqNode.keep 0 eqNode.code (doneK eqNode.res r frs) ⟨argEnv 0 args, [], []⟩) : Abs.Ret mo Tryz.prog 105 args r frs :=
  Abs.Ret.of_ir Tryz.func105 rfl (by kernel_rfl) (Nat.le_of_ble_eq_true hn) (by kernel_rfl) (by kernel_rfl) h
abbrev eqNode.Ret (args : List AV) (r : AV) (frs : Fr) : Prop := Abs.Ret true Tryz.prog 105 args r frs
def eqNodeS.code : ACode := (.seq (.region false [s 4 (.mv (.const (.bool false)))]) (.seq (.seq (.region false [s 6 (.mv (t 0)), s 7 (.len false (t 6)), s 8 (.mv (t 1)), s 9 (.len false (t 8)), s 10 (.bin .neq (t 7) (t 9))]) (.cond (t 10) (.seq (.region false [s 4 (.mv (.const (.bool false)))]) .ret) .skip)) (.seq (.seq (.region false [s 5 (.mv (.const (.int .i64 0)))]) (.block 0 (.loop (.seq (.seq (.region false [s 11 (.mv (t 5)), s 12 (.mv (t 0)), s 13 (.len false (t 12)), s 14 (.bin .lss (t 11) (t 13))]) (.cond (t 14) .skip (.exit 0))) (.seq (.block 1 (.seq (.region true [s 17 (.mv (t 0)), s 18 (.mv (t 5)), s 19 (.iadr 8 (t 17) (t 18)), s 20 (.load true 8 (t 19)), s 21 (.mv (t 1)), s 22 (.mv (t 5)), s 23 (.iadr 8 (t 21) (t 22)), s 24 (.load true 8 (t 23)), s 25 (.call 105 [(t 20), (t 24)]), s 26 (.not (t 25))]) (.cond (t 26) (.seq (.region false [s 4 (.mv (.const (.bool false)))]) .ret) .skip))) (.region false [s 15 (.mv (t 5)), s 16 (.bin .add (t 15) (.const (.int .i64 1))), s 5 (.mv (t 16))])))))) (.seq (.region false [s 4 (.mv (.const (.bool true)))]) .ret))))
def eqNodeS.keep : List Nat := [0, 1, 4, 5]
def eqNodeS.res : List RRes := [.tmp 4]
theorem eqNodeS.of {mo : Bool} {args : List AV} {r : AV} {frs : Fr} (hn : Nat.ble args.length Tryz.f40.ntmps = true) (h : aCode (Kn mo Tryz.prog) eqNodeS.keep 0 eqNodeS.code (doneK eqNodeS.res r frs) ⟨argEnv 0 args, [], []⟩) : Abs.Ret mo Tryz.prog 40 args r frs :=
  Abs.Ret.of_ir Tryz.func40 rfl (by kernel_rfl) (Nat.le_of_ble_eq_true hn) (by kernel_rfl) (by kernel_rfl) h
abbrev eqNodeS.Ret (args : List AV) (r : AV) (frs : Fr) : Prop := Abs.Ret true Tryz.prog 40 args r frs
def eqPair.code : ACode := (.seq (.region false [s 2 (.box (t 0)), s 3 (.box (t 1)), s 4 (.mv (.const (.bool false)))]) (.seq (.seq (.region false [s 5 (.fadr 0 (t 2)), s 6 (.load false 1 (t 5)), s 7 (.fadr 0 (t 3)), s 8 (.load false 1 (t 7)), s 9 (.bin .neq (t 6) (t 8))]) (.cond (t 9) (.seq (.region false [s 4 (.mv (.const (.bool false)))]) .ret) .skip)) (.seq (.seq (.region false [s 10 (.fadr 1 (t 2)), s 11 (.load false 1 (t 10)), s 12 (.fadr 1 (t 3)), s 13 (.load false 1 (t 12)), s 14 (.bin .neq (t 11) (t 13))]) (.cond (t 14) (.seq (.region false [s 4 (.mv (.const (.bool false)))]) .ret) .skip)) (.seq (.region false [s 4 (.mv (.const (.bool true)))]) .ret))))
def eqPair.keep : List Nat := [0, 1, 2, 3, 4]
def eqPair.res : List RRes := [.tmp 4]
theorem eqPair.of {mo : Bool} {args : List AV} {r : AV} {frs : Fr} (hn : Nat.ble args.length Tryz.f225.ntmps = true) (h : aCode (Kn mo Tryz.prog) eqPair.keep 0 eqPair.code (doneK eqPair.res r frs) ⟨argEnv 0 args, [], []⟩) : Abs.Ret mo Tryz.prog 225 args r frs :=
  Abs.Ret.of_ir Tryz.func225 rfl (by kernel_rfl) (Nat.le_of_ble_eq_true hn) (by kernel_rfl) (by kernel_rfl) h
abbrev eqPair.Ret (args : List AV) (r : AV) (frs : Fr) : Prop := Abs.Ret true Tryz.prog 225 args r frs
def eqPairS.code : ACode := (.seq (.region false [s 4 (.mv (.const (.bool false)))]) (.seq (.seq (.region false [s 6 (.mv (t 0)), s 7 (.len false (t 6)), s 8 (.mv (t 1)), s 9 (.len false (t 8)), s 10 (.bin .neq (t 7) (t 9))]) (.cond (t 10) (.seq (.region false [s 4 (.mv (.const (.bool false)))]) .ret) .skip)) (.seq (.seq (.region false [s 5 (.mv (.const (.int .i64 0)))]) (.block 0 (.loop (.seq (.seq (.region false [s 11 (.mv (t 5)), s 12 (.mv (t 0)), s 13 (.len false (t 12)), s 14 (.bin .lss (t 11) (t 13))]) (.cond (t 14) .skip (.exit 0))) (.seq (.block 1 (.seq (.region true [s 17 (.mv (t 0)), s 18 (.mv (t 5)), s 19 (.iadr 2 (t 17) (t 18)), s 20 (.load true 2 (t 19)), s 21 (.mv (t 1)), s 22 (.mv (t 5)), s 23 (.iadr 2 (t 21) (t 22)), s 24 (.load true 2 (t 23)), s 25 (.call 225 [(t 20), (t 24)]), s 26 (.not (t 25))]) (.cond (t 26) (.seq (.region false [s 4 (.mv (.const (.bool false)))]) .ret) .skip))) (.region false [s 15 (.mv (t 5)), s 16 (.bin .add (t 15) (.const (.int .i64 1))), s 5 (.mv (t 16))])))))) (.seq (.region false [s 4 (.mv (.const (.bool true)))]) .ret))))
def eqPairS.keep : List Nat := [0, 1, 4, 5]
def eqPairS.res : List RRes := [.tmp 4]
theorem eqPairS.of {mo : Bool} {args : List AV} {r : AV} {frs : Fr} (hn : Nat.ble args.length Tryz.f148.ntmps = true) (h : aCode (Kn mo Tryz.prog) eqPairS.keep 0 eqPairS.code (doneK eqPairS.res r frs) ⟨argEnv 0 args, [], []⟩) : Abs.Ret mo Tryz.prog 148 args r frs :=
  Abs.Ret.of_ir Tryz.func148 rfl (by kernel_rfl) (Nat.le_of_ble_eq_true hn) (by kernel_rfl) (by kernel_rfl) h
abbrev eqPairS.Ret (args : List AV) (r : AV) (frs : Fr) : Prop := Abs.Ret true Tryz.prog 148 args r frs
def eqPattern.code : ACode := (.seq (.region false [s 2 (.box (t 0)), s 3 (.box (t 1)), s 4 (.mv (.const (.bool false)))]) (.seq (.seq (.region false [s 5 (.fadr 0 (t 2)), s 6 (.load false 1 (t 5)), s 7 (.fadr 0 (t 3)), s 8 (.load false 1 (t 7)), s 9 (.bin .neq (t 6) (t 8))]) (.cond (t 9) (.seq (.region false [s 4 (.mv (.const (.bool false)))]) .ret) .skip)) (.seq (.seq (.region false [s 10 (.fadr 1 (t 2)), s 11 (.load false 1 (t 10)), s 12 (.fadr 1 (t 3)), s 13 (.load false 1 (t 12)), s 14 (.call 187 [(t 11), (t 13)]), s 15 (.not (t 14))]) (.cond (t 15) (.seq (.region false [s 4 (.mv (.const (.bool false)))]) .ret) .skip)) (.seq (.region false [s 4 (.mv (.const (.bool true)))]) .ret))))
def eqPattern.keep : List Nat := [0, 1, 2, 3, 4]
def eqPattern.res : List RRes := [.tmp 4]
theorem eqPattern.of {mo : Bool} {args : List AV} {r : AV} {frs : Fr} (hn : Nat.ble args.length Tryz.f184.ntmps = true) (h : aCode (Kn mo Tryz.prog) eqPattern.keep 0 eqPattern.code (doneK eqPattern.res r frs) ⟨argEnv 0 args, [], []⟩) : Abs.Ret mo Tryz.prog 184 args r frs :=
  Abs.Ret.of_ir Tryz.func184 rfl (by kernel_rfl) (Nat.le_of_ble_eq_true hn) (by kernel_rfl) (by kernel_rfl) h
abbrev eqPattern.Ret (args : List AV) (r : AV) (frs : Fr) : Prop := Abs.Ret true Tryz.prog 184 args r frs
def eqRule.code : ACode := (.seq (.region false [s 2 (.box (t 0)), s 3 (.box (t 1)), s 4 (.mv (.const (.bool false)))]) (.seq (.seq (.region false [s 5 (.fadr 0 (t 2)), s 6 (.load false 1 (t 5)), s 7 (.fadr 0 (t 3)), s 8 (.load false 1 (t 7)), s 9 (.bin .neq (t 6) (t 8))]) (.cond (t 9) (.seq (.region false [s 4 (.mv (.const (.bool false)))]) .ret) .skip)) (.seq (.seq (.region false [s 10 (.fadr 1 (t 2)), s 11 (.load false 1 (t 10)), s 12 (.fadr 1 (t 3)), s 13 (.load false 1 (t 12)), s 14 (.bin .neq (t 11) (t 13))]) (.cond (t 14) (.seq (.region false [s 4 (.mv (.const (.bool false)))]) .ret) .skip)) (.seq (.seq (.region false [s 15 (.fadr 2 (t 2)), s 16 (.load false 1 (t 15)), s 17 (.fadr 2 (t 3)), s 18 (.load false 1 (t 17)), s 19 (.call 107 [(t 16), (t 18)]), s 20 (.not (t 19))]) (.cond (t 20) (.seq (.region false [s 4 (.mv (.const (.bool false)))]) .ret) .skip)) (.seq (.seq (.region false [s 21 (.fadr 3 (t 2)), s 22 (.load false 1 (t 21)), s 23 (.fadr 3 (t 3)), s 24 (.load false 1 (t 23)), s 25 (.call 108 [(t 22), (t 24)]), s 26 (.not (t 25))]) (.cond (t 26) (.seq (.region false [s 4 (.mv (.const (.bool false)))]) .ret) .skip)) (.seq (.region false [s 4 (.mv (.const (.bool true)))]) .ret))))))
def eqRule.keep : List Nat := [0, 1, 2, 3, 4]
def eqRule.res : List RRes := [.tmp 4]
theorem eqRule.of {mo : Bool} {args : List AV} {r : AV} {frs : Fr} (hn : Nat.ble args.length Tryz.f42.ntmps = true) (h : aCode (Kn mo Tryz.prog) eqRule.keep 0 eqRule.code (doneK eqRule.res r frs) ⟨argEnv 0 args, [], []⟩) : Abs.Ret mo Tryz.prog 42 args r frs :=
  Abs.Ret.of_ir Tryz.func42 rfl (by kernel_rfl) (Nat.le_of_ble_eq_true hn) (by kernel_rfl) (by kernel_rfl) h
abbrev eqRule.Ret (args : List AV) (r : AV) (frs : Fr) : Prop := Abs.Ret true Tryz.prog 42 args r frs
def eqRuleS.code : ACode := (.seq (.region false [s 4 (.mv (.const (.bool false)))]) (.seq (.seq (.region false [s 6 (.mv (t 0)), s 7 (.len false (t 6)), s 8 (.mv (t 1)), s 9 (.len false (t 8)), s 10 (.bin .neq (t 7) (t 9))]) (.cond (t 10) (.seq (.region false [s 4 (.mv (.const (.bool false)))]) .ret) .skip)) (.seq (.seq (.region false [s 5 (.mv (.const (.int .i64 0)))]) (.block 0 (.loop (.seq (.seq (.region false [s 11 (.mv (t 5)), s 12 (.mv (t 0)), s 13 (.len false (t 12)), s 14 (.bin .lss (t 11) (t 13))]) (.cond (t 14) .skip (.exit 0))) (.seq (.block 1 (.seq (.region true [s 17 (.mv (t 0)), s 18 (.mv (t 5)), s 19 (.iadr 4 (t 17) (t 18)), s 20 (.load true 4 (t 19)), s 21 (.mv (t 1)), s 22 (.mv (t 5)), s 23 (.iadr 4 (t 21) (t 22)), s 24 (.load true 4 (t 23)), s 25 (.call 42 [(t 20), (t 24)]), s 26 (.not (t 25))]) (.cond (t 26) (.seq (.region false [s 4 (.mv (.const (.bool false)))]) .ret) .skip))) (.region false [s 15 (.mv (t 5)), s 16 (.bin .add (t 15) (.const (.int .i64 1))), s 5 (.mv (t 16))])))))) (.seq (.region false [s 4 (.mv (.const (.bool true)))]) .ret))))
def eqRuleS.keep : List Nat := [0, 1, 4, 5]
def eqRuleS.res : List RRes := [.tmp 4]
theorem eqRuleS.of {mo : Bool} {args : List AV} {r : AV} {frs : Fr} (hn : Nat.ble args.length Tryz.f13.ntmps = true) (h : aCode (Kn mo Tryz.prog) eqRuleS.keep 0 eqRuleS.code (doneK eqRuleS.res r frs) ⟨argEnv 0 args, [], []⟩) : Abs.Ret mo Tryz.prog 13 args r frs :=
  Abs.Ret.of_ir Tryz.func13 rfl (by kernel_rfl) (Nat.le_of_ble_eq_true hn) (by kernel_rfl) (by kernel_rfl) h
abbrev eqRuleS.Ret (args : List AV) (r : AV) (frs : Fr) : Prop := Abs.Ret true Tryz.prog 13 args r frs
def eqStringS.code : ACode := (.seq (.region false [s 4 (.mv (.const (.bool false)))]) (.seq (.seq (.region false [s 6 (.mv (t 0)), s 7 (.len false (t 6)), s 8 (.mv (t 1)), s 9 (.len false (t 8)), s 10 (.bin .neq (t 7) (t 9))]) (.cond (t 10) (.seq (.region false [s 4 (.mv (.const (.bool false)))]) .ret) .skip)) (.seq (.seq (.region false [s 5 (.mv (.const (.int .i64 0)))]) (.block 0 (.loop (.seq (.seq (.region false [s 11 (.mv (t 5)), s 12 (.mv (t 0)), s 13 (.len false (t 12)), s 14 (.bin .lss (t 11) (t 13))]) (.cond (t 14) .skip (.exit 0))) (.seq (.block 1 (.seq (.region true [s 17 (.mv (t 0)), s 18 (.mv (t 5)), s 19 (.iadr 1 (t 17) (t 18)), s 20 (.load false 1 (t 19)), s 21 (.mv (t 1)), s 22 (.mv (t 5)), s 23 (.iadr 1 (t 21) (t 22)), s 24 (.load false 1 (t 23)), s 25 (.bin .neq (t 20) (t 24))]) (.cond (t 25) (.seq (.region false [s 4 (.mv (.const (.bool false)))]) .ret) .skip))) (.region false [s 15 (.mv (t 5)), s 16 (.bin .add (t 15) (.const (.int .i64 1))), s 5 (.mv (t 16))])))))) (.seq (.region false [s 4 (.mv (.const (.bool true)))]) .ret))))
def eqStringS.keep : List Nat := [0, 1, 4, 5]
def eqStringS.res : List RRes := [.tmp 4]
theorem eqStringS.of {mo : Bool} {args : List AV} {r : AV} {frs : Fr} (hn : Nat.ble args.length Tryz.f187.ntmps = true) (h : aCode (Kn mo Tryz.prog) eqStringS.keep 0 eqStringS.code (doneK eqStringS.res r frs) ⟨argEnv 0 args, [], []⟩) : Abs.Ret mo Tryz.prog 187 args r frs :=
  Abs.Ret.of_ir Tryz.func187 rfl (by kernel_rfl) (Nat.le_of_ble_eq_true hn) (by kernel_rfl) (by kernel_rfl) h
abbrev eqStringS.Ret (args : List AV) (r : AV) (frs : Fr) : Prop := Abs.Ret true Tryz.prog 187 args r frs
def eqToken.code : ACode := (.seq (.region false [s 2 (.box (t 0)), s 3 (.box (t 1)), s 4 (.mv (.const (.bool false)))]) (.seq (.seq (.region false [s 5 (.fadr 0 (t 2)), s 6 (.load false 1 (t 5)), s 7 (.fadr 0 (t 3)), s 8 (.load false 1 (t 7)), s 9 (.call 41 [(t 6), (t 8)]), s 10 (.not (t 9))]) (.cond (t 10) (.seq (.region false [s 4 (.mv (.const (.bool false)))]) .ret) .skip)) (.seq (.seq (.region false [s 11 (.fadr 1 (t 2)), s 12 (.load false 1 (t 11)), s 13 (.fadr 1 (t 3)), s 14 (.load false 1 (t 13)), s 15 (.call 148 [(t 12), (t 14)]), s 16 (.not (t 15))]) (.cond (t 16) (.seq (.region false [s 4 (.mv (.const (.bool false)))]) .ret) .skip)) (.seq (.region false [s 4 (.mv (.const (.bool true)))]) .ret))))
def eqToken.keep : List Nat := [0, 1, 2, 3, 4]
def eqToken.res : List RRes := [.tmp 4]
theorem eqToken.of {mo : Bool} {args : List AV} {r : AV} {frs : Fr} (hn : Nat.ble args.length Tryz.f254.ntmps = true) (h : aCode (Kn mo Tryz.prog) eqToken.keep 0 eqToken.code (doneK eqToken.res r frs) ⟨argEnv 0 args, [], []⟩) : Abs.Ret mo Tryz.prog 254 args r frs :=
  Abs.Ret.of_ir Tryz.func254 rfl (by kernel_rfl) (Nat.le_of_ble_eq_true hn) (by kernel_rfl) (by kernel_rfl) h
abbrev eqToken.Ret (args : List AV) (r : AV) (frs : Fr) : Prop := Abs.Ret true Tryz.prog 254 args r frs
def eqTokenS.code : ACode := (.seq (.region false [s 4 (.mv (.const (.bool false)))]) (.seq (.seq (.region false [s 6 (.mv (t 0)), s 7 (.len false (t 6)), s 8 (.mv (t 1)), s 9 (.len false (t 8)), s 10 (.bin .neq (t 7) (t 9))]) (.cond (t 10) (.seq (.region false [s 4 (.mv (.const (.bool false)))]) .ret) .skip)) (.seq (.seq (.region false [s 5 (.mv (.const (.int .i64 0)))]) (.block 0 (.loop (.seq (.seq (.region false [s 11 (.mv (t 5)), s 12 (.mv (t 0)), s 13 (.len false (t 12)), s 14 (.bin .lss (t 11) (t 13))]) (.cond (t 14) .skip (.exit 0))) (.seq (.block 1 (.seq (.region true [s 17 (.mv (t 0)), s 18 (.mv (t 5)), s 19 (.iadr 2 (t 17) (t 18)), s 20 (.load true 2 (t 19)), s 21 (.mv (t 1)), s 22 (.mv (t 5)), s 23 (.iadr 2 (t 21) (t 22)), s 24 (.load true 2 (t 23)), s 25 (.call 254 [(t 20), (t 24)]), s 26 (.not (t 25))]) (.cond (t 26) (.seq (.region false [s 4 (.mv (.const (.bool false)))]) .ret) .skip))) (.region false [s 15 (.mv (t 5)), s 16 (.bin .add (t 15) (.const (.int .i64 1))), s 5 (.mv (t 16))])))))) (.seq (.region false [s 4 (.mv (.const (.bool true)))]) .ret))))
def eqTokenS.keep : List Nat := [0, 1, 4, 5]
def eqTokenS.res : List RRes := [.tmp 4]
theorem eqTokenS.of {mo : Bool} {args : List AV} {r : AV} {frs : Fr} (hn : Nat.ble args.length Tryz.f186.ntmps = true) (h : aCode (Kn mo Tryz.prog) eqTokenS.keep 0 eqTokenS.code (doneK eqTokenS.res r frs) ⟨argEnv 0 args, [], []⟩) : Abs.Ret mo Tryz.prog 186 args r frs :=
  Abs.Ret.of_ir Tryz.func186 rfl (by kernel_rfl) (Nat.le_of_ble_eq_true hn) (by kernel_rfl) (by kernel_rfl) h
abbrev eqTokenS.Ret (args : List AV) (r : AV) (frs : Fr) : Prop := Abs.Ret true Tryz.prog 186 args r frs
def szAction.code : ACode := (.seq (.region false [s 2 (.box (t 0)), s 4 (.mv (.const (.int .i64 0)))]) (.seq (.region false [s 5 (.fadr 1 (t 2)), s 6 (.load true 2 (t 5)), s 7 (.mv (t 1)), s 8 (.call 189 [(t 6), (t 7)]), s 1 (.mv (t 8))]) (.seq (.seq (.region false [s 9 (.mv (t 1)), s 10 (.bin .lss (t 9) (.const (.int .i64 0)))]) (.cond (t 10) (.seq (.region false [s 4 (.mv (.const (.int .i64 (-1))))]) .ret) .skip)) (.seq (.region false [s 11 (.mv (t 1)), s 4 (.mv (t 11))]) .ret))))
def szAction.keep : List Nat := [0, 1, 2, 4]
def szAction.res : List RRes := [.tmp 4]
theorem szAction.of {mo : Bool} {args : List AV} {r : AV} {frs : Fr} (hn : Nat.ble args.length Tryz.f158.ntmps = true) (h : aCode (Kn mo Tryz.prog) szAction.keep 0 szAction.code (doneK szAction.res r frs) ⟨argEnv 0 args, [], []⟩) : Abs.Ret mo Tryz.prog 158 args r frs :=
  Abs.Ret.of_ir Tryz.func158 rfl (by kernel_rfl) (Nat.le_of_ble_eq_true hn) (by kernel_rfl) (by kernel_rfl) h
abbrev szAction.Ret (args : List AV) (r : AV) (frs : Fr) : Prop := Abs.Ret true Tryz.prog 158 args r frs
def szActionS.code : ACode := (.seq (.region false [s 4 (.mv (.const (.int .i64 0)))]) (.seq (.region false [s 6 (.mv (t 1)), s 7 (.mv (t 0)), s 8 (.len false (t 7)), s 9 (.bin .sub (t 6) (t 8)), s 1 (.mv (t 9))]) (.seq (.seq (.region false [s 10 (.mv (t 1)), s 11 (.bin .lss (t 10) (.const (.int .i64 0)))]) (.cond (t 11) (.seq (.region false [s 4 (.mv (.const (.int .i64 (-1))))]) .ret) .skip)) (.seq (.seq (.region false [s 5 (.mv (.const (.int .i64 0)))]) (.block 0 (.loop (.seq (.seq (.region false [s 12 (.mv (t 5)), s 13 (.mv (t 0)), s 14 (.len false (t 13)), s 15 (.bin .lss (t 12) (t 14))]) (.cond (t 15) .skip (.exit 0))) (.seq (.block 1 (.seq (.region false [s 18 (.mv (t 0)), s 19 (.mv (t 5)), s 20 (.iadr 3 (t 18) (t 19)), s 21 (.load true 3 (t 20)), s 22 (.mv (t 1)), s 23 (.call 158 [(t 21), (t 22)]), s 1 (.mv (t 23))]) (.seq (.region false [s 24 (.mv (t 1)), s 25 (.bin .lss (t 24) (.const (.int .i64 0)))]) (.cond (t 25) (.seq (.region false [s 4 (.mv (.const (.int .i64 (-1))))]) .ret) .skip)))) (.region false [s 16 (.mv (t 5)), s 17 (.bin .add (t 16) (.const (.int .i64 1))), s 5 (.mv (t 17))])))))) (.seq (.region false [s 26 (.mv (t 1)), s 4 (.mv (t 26))]) .ret)))))
def szActionS.keep : List Nat := [0, 1, 4, 5]
def szActionS.res : List RRes := [.tmp 4]
theorem szActionS.of {mo : Bool} {args : List AV} {r : AV} {frs : Fr} (hn : Nat.ble args.length Tryz.f87.ntmps = true) (h : aCode (Kn mo Tryz.prog) szActionS.keep 0 szActionS.code (doneK szActionS.res r frs) ⟨argEnv 0 args, [], []⟩) : Abs.Ret mo Tryz.prog 87 args r frs :=
  Abs.Ret.of_ir Tryz.func87 rfl (by kernel_rfl) (Nat.le_of_ble_eq_true hn) (by kernel_rfl) (by kernel_rfl) h
abbrev szActionS.Ret (args : List AV) (r : AV) (frs : Fr) : Prop := Abs.Ret true Tryz.prog 87 args r frs
def szAlpha.code : ACode := (.seq (.region false [s 2 (.box (t 0)), s 4 (.mv (.const (.int .i64 0)))]) (.seq (.region false [s 5 (.fadr 0 (t 2)), s 6 (.load true 2 (t 5)), s 7 (.mv (t 1)), s 8 (.call 189 [(t 6), (t 7)]), s 1 (.mv (t 8))]) (.seq (.seq (.region false [s 9 (.mv (t 1)), s 10 (.bin .lss (t 9) (.const (.int .i64 0)))]) (.cond (t 10) (.seq (.region false [s 4 (.mv (.const (.int .i64 (-1))))]) .ret) .skip)) (.seq (.region false [s 11 (.fadr 2 (t 2)), s 12 (.load false 1 (t 11)), s 13 (.mv (t 1)), s 14 (.call 58 [(t 12), (t 13)]), s 1 (.mv (t 14))]) (.seq (.seq (.region false [s 15 (.mv (t 1)), s 16 (.bin .lss (t 15) (.const (.int .i64 0)))]) (.cond (t 16) (.seq (.region false [s 4 (.mv (.const (.int .i64 (-1))))]) .ret) .skip)) (.seq (.region false [s 17 (.mv (t 1)), s 4 (.mv (t 17))]) .ret))))))
def szAlpha.keep : List Nat := [0, 1, 2, 4]
def szAlpha.res : List RRes := [.tmp 4]
theorem szAlpha.of {mo : Bool} {args : List AV} {r : AV} {frs : Fr} (hn : Nat.ble args.length Tryz.f115.ntmps = true) (h : aCode (Kn mo Tryz.prog) szAlpha.keep 0 szAlpha.code (doneK szAlpha.res r frs) ⟨argEnv 0 args, [], []⟩) : Abs.Ret mo Tryz.prog 115 args r frs :=
  Abs.Ret.of_ir Tryz.func115 rfl (by kernel_rfl) (Nat.le_of_ble_eq_true hn) (by kernel_rfl) (by kernel_rfl) h
abbrev szAlpha.Ret (args : List AV) (r : AV) (frs : Fr) : Prop := Abs.Ret true Tryz.prog 115 args r frs
def szAlphaS.code : ACode := (.seq (.region false [s 4 (.mv (.const (.int .i64 0)))]) (.seq (.region false [s 6 (.mv (t 1)), s 7 (.mv (t 0)), s 8 (.len false (t 7)), s 9 (.bin .sub (t 6) (t 8)), s 1 (.mv (t 9))]) (.seq (.seq (.region false [s 10 (.mv (t 1)), s 11 (.bin .lss (t 10) (.const (.int .i64 0)))]) (.cond (t 11) (.seq (.region false [s 4 (.mv (.const (.int .i64 (-1))))]) .ret) .skip)) (.seq (.seq (.region false [s 5 (.mv (.const (.int .i64 0)))]) (.block 0 (.loop (.seq (.seq (.region false [s 12 (.mv (t 5)), s 13 (.mv (t 0)), s 14 (.len false (t 13)), s 15 (.bin .lss (t 12) (t 14))]) (.cond (t 15) .skip (.exit 0))) (.seq (.block 1 (.seq (.region false [s 18 (.mv (t 0)), s 19 (.mv (t 5)), s 20 (.iadr 3 (t 18) (t 19)), s 21 (.load true 3 (t 20)), s 22 (.mv (t 1)), s 23 (.call 115 [(t 21), (t 22)]), s 1 (.mv (t 23))]) (.seq (.region false [s 24 (.mv (t 1)), s 25 (.bin .lss (t 24) (.const (.int .i64 0)))]) (.cond (t 25) (.seq (.region false [s 4 (.mv (.const (.int .i64 (-1))))]) .ret) .skip)))) (.region false [s 16 (.mv (t 5)), s 17 (.bin .add (t 16) (.const (.int .i64 1))), s 5 (.mv (t 17))])))))) (.seq (.region false [s 26 (.mv (t 1)), s 4 (.mv (t 26))]) .ret)))))
def szAlphaS.keep : List Nat := [0, 1, 4, 5]
def szAlphaS.res : List RRes := [.tmp 4]
theorem szAlphaS.of {mo : Bool} {args : List AV} {r : AV} {frs : Fr} (hn : Nat.ble args.length Tryz.f56.ntmps = true) (h : aCode (Kn mo Tryz.prog) szAlphaS.keep 0 szAlphaS.code (doneK szAlphaS.res r frs) ⟨argEnv 0 args, [], []⟩) : Abs.Ret mo Tryz.prog 56 args r frs :=
  Abs.Ret.of_ir Tryz.func56 rfl (by kernel_rfl) (Nat.le_of_ble_eq_true hn) (by kernel_rfl) (by kernel_rfl) h
abbrev szAlphaS.Ret (args : List AV) (r : AV) (frs : Fr) : Prop := Abs.Ret true Tryz.prog 56 args r frs
def szCond.code : ACode := (.seq (.region false [s 2 (.box (t 0)), s 4 (.mv (.const (.int .i64 0)))]) (.seq (.region false [s 5 (.fadr 1 (t 2)), s 6 (.load true 2 (t 5)), s 7 (.mv (t 1)), s 8 (.call 189 [(t 6), (t 7)]), s 1 (.mv (t 8))]) (.seq (.seq (.region false [s 9 (.mv (t 1)), s 10 (.bin .lss (t 9) (.const (.int .i64 0)))]) (.cond (t 10) (.seq (.region false [s 4 (.mv (.const (.int .i64 (-1))))]) .ret) .skip)) (.seq (.region false [s 11 (.mv (t 1)), s 12 (.fadr 3 (t 2)), s 13 (.load false 1 (t 12)), s 14 (.len true (t 13)), s 15 (.bin .sub (t 11) (t 14)), s 1 (.mv (t 15))]) (.seq (.seq (.region false [s 16 (.mv (t 1)), s 17 (.bin .lss (t 16) (.const (.int .i64 0)))]) (.cond (t 17) (.seq (.region false [s 4 (.mv (.const (.int .i64 (-1))))]) .ret) .skip)) (.seq (.region false [s 18 (.mv (t 1)), s 19 (.fadr 4 (t 2)), s 20 (.load false 1 (t 19)), s 21 (.len true (t 20)), s 22 (.bin .sub (t 18) (t 21)), s 1 (.mv (t 22))]) (.seq (.seq (.region false [s 23 (.mv (t 1)), s 24 (.bin .lss (t 23) (.const (.int .i64 0)))]) (.cond (t 24) (.seq (.region false [s 4 (.mv (.const (.int .i64 (-1))))]) .ret) .skip)) (.seq (.region false [s 25 (.mv (t 1)), s 4 (.mv (t 25))]) .ret))))))))
def szCond.keep : List Nat := [0, 1, 2, 4]
def szCond.res : List RRes := [.tmp 4]
theorem szCond.of {mo : Bool} {args : List AV} {r : AV} {frs : Fr} (hn : Nat.ble args.length Tryz.f157.ntmps = true) (h : aCode (Kn mo Tryz.prog) szCond.keep 0 szCond.code (doneK szCond.res r frs) ⟨argEnv 0 args, [], []⟩) : Abs.Ret mo Tryz.prog 157 args r frs :=
  Abs.Ret.of_ir Tryz.func157 rfl (by kernel_rfl) (Nat.le_of_ble_eq_true hn) (by kernel_rfl) (by kernel_rfl) h
abbrev szCond.Ret (args : List AV) (r : AV) (frs : Fr) : Prop := Abs.Ret true Tryz.prog 157 args r frs
def szCondS.code : ACode := (.seq (.region false [s 4 (.mv (.const (.int .i64 0)))]) (.seq (.region false [s 6 (.mv (t 1)), s 7 (.mv (t 0)), s 8 (.len false (t 7)), s 9 (.bin .sub (t 6) (t 8)), s 1 (.mv (t 9))]) (.seq (.seq (.region false [s 10 (.mv (t 1)), s 11 (.bin .lss (t 10) (.const (.int .i64 0)))]) (.cond (t 11) (.seq (.region false [s 4 (.mv (.const (.int .i64 (-1))))]) .ret) .skip)) (.seq (.seq (.region false [s 5 (.mv (.const (.int .i64 0)))]) (.block 0 (.loop (.seq (.seq (.region false [s 12 (.mv (t 5)), s 13 (.mv (t 0)), s 14 (.len false (t 13)), s 15 (.bin .lss (t 12) (t 14))]) (.cond (t 15) .skip (.exit 0))) (.seq (.block 1 (.seq (.region false [s 18 (.mv (t 0)), s 19 (.mv (t 5)), s 20 (.iadr 5 (t 18) (t 19)), s 21 (.load true 5 (t 20)), s 22 (.mv (t 1)), s 23 (.call 157 [(t 21), (t 22)]), s 1 (.mv (t 23))]) (.seq (.region false [s 24 (.mv (t 1)), s 25 (.bin .lss (t 24) (.const (.int .i64 0)))]) (.cond (t 25) (.seq (.region false [s 4 (.mv (.const (.int .i64 (-1))))]) .ret) .skip)))) (.region false [s 16 (.mv (t 5)), s 17 (.bin .add (t 16) (.const (.int .i64 1))), s 5 (.mv (t 17))])))))) (.seq (.region false [s 26 (.mv (t 1)), s 4 (.mv (t 26))]) .ret)))))
def szCondS.keep : List Nat := [0, 1, 4, 5]
def szCondS.res : List RRes := [.tmp 4]
theorem szCondS.of {mo : Bool} {args : List AV} {r : AV} {frs : Fr} (hn : Nat.ble args.length Tryz.f86.ntmps = true) (h : aCode (Kn mo Tryz.prog) szCondS.keep 0 szCondS.code (doneK szCondS.res r frs) ⟨argEnv 0 args, [], []⟩) : Abs.Ret mo Tryz.prog 86 args r frs :=
  Abs.Ret.of_ir Tryz.func86 rfl (by kernel_rfl) (Nat.le_of_ble_eq_true hn) (by kernel_rfl) (by kernel_rfl) h
abbrev szCondS.Ret (args : List AV) (r : AV) (frs : Fr) : Prop := Abs.Ret true Tryz.prog 86 args r frs
def szFact.code : ACode := (.seq (.region false [s 2 (.box (t 0)), s 4 (.mv (.const (.int .i64 0)))]) (.seq (.region false [s 5 (.mv (t 1)), s 6 (.fadr 0 (t 2)), s 7 (.load false 1 (t 6)), s 8 (.len true (t 7)), s 9 (.bin .sub (t 5) (t 8)), s 1 (.mv (t 9))]) (.seq (.seq (.region false [s 10 (.mv (t 1)), s 11 (.bin .lss (t 10) (.const (.int .i64 0)))]) (.cond (t 11) (.seq (.region false [s 4 (.mv (.const (.int .i64 (-1))))]) .ret) .skip)) (.seq (.region false [s 12 (.fadr 1 (t 2)), s 13 (.load false 1 (t 12)), s 14 (.mv (t 1)), s 15 (.call 191 [(t 13), (t 14)]), s 1 (.mv (t 15))]) (.seq (.seq (.region false [s 16 (.mv (t 1)), s 17 (.bin .lss (t 16) (.const (.int .i64 0)))]) (.cond (t 17) (.seq (.region false [s 4 (.mv (.const (.int .i64 (-1))))]) .ret) .skip)) (.seq (.region false [s 18 (.mv (t 1)), s 4 (.mv (t 18))]) .ret))))))
def szFact.keep : List Nat := [0, 1, 2, 4]
def szFact.res : List RRes := [.tmp 4]
theorem szFact.of {mo : Bool} {args : List AV} {r : AV} {frs : Fr} (hn : Nat.ble args.length Tryz.f117.ntmps = true) (h : aCode (Kn mo Tryz.prog) szFact.keep 0 szFact.code (doneK szFact.res r frs) ⟨argEnv 0 args, [], []⟩) : Abs.Ret mo Tryz.prog 117 args r frs :=
  Abs.Ret.of_ir Tryz.func117 rfl (by kernel_rfl) (Nat.le_of_ble_eq_true hn) (by kernel_rfl) (by kernel_rfl) h
abbrev szFact.Ret (args : List AV) (r : AV) (frs : Fr) : Prop := Abs.Ret true Tryz.prog 117 args r frs
def szFactS.code : ACode := (.seq (.region false [s 4 (.mv (.const (.int .i64 0)))]) (.seq (.region false [s 6 (.mv (t 1)), s 7 (.mv (t 0)), s 8 (.len false (t 7)), s 9 (.bin .sub (t 6) (t 8)), s 1 (.mv (t 9))]) (.seq (.seq (.region false [s 10 (.mv (t 1)), s 11 (.bin .lss (t 10) (.const (.int .i64 0)))]) (.cond (t 11) (.seq (.region false [s 4 (.mv (.const (.int .i64 (-1))))]) .ret) .skip)) (.seq (.seq (.region false [s 5 (.mv (.const (.int .i64 0)))]) (.block 0 (.loop (.seq (.seq (.region false [s 12 (.mv (t 5)), s 13 (.mv (t 0)), s 14 (.len false (t 13)), s 15 (.bin .lss (t 12) (t 14))]) (.cond (t 15) .skip (.exit 0))) (.seq (.block 1 (.seq (.region false [s 18 (.mv (t 0)), s 19 (.mv (t 5)), s 20 (.iadr 2 (t 18) (t 19)), s 21 (.load true 2 (t 20)), s 22 (.mv (t 1)), s 23 (.call 117 [(t 21), (t 22)]), s 1 (.mv (t 23))]) (.seq (.region false [s 24 (.mv (t 1)), s 25 (.bin .lss (t 24) (.const (.int .i64 0)))]) (.cond (t 25) (.seq (.region false [s 4 (.mv (.const (.int .i64 (-1))))]) .ret) .skip)))) (.region false [s 16 (.mv (t 5)), s 17 (.bin .add (t 16) (.const (.int .i64 1))), s 5 (.mv (t 17))])))))) (.seq (.region false [s 26 (.mv (t 1)), s 4 (.mv (t 26))]) .ret)))))
def szFactS.keep : List Nat := [0, 1, 4, 5]
def szFactS.res : List RRes := [.tmp 4]
theorem szFactS.of {mo : Bool} {args : List AV} {r : AV} {frs : Fr} (hn : Nat.ble args.length Tryz.f58.ntmps = true) (h : aCode (Kn mo Tryz.prog) szFactS.keep 0 szFactS.code (doneK szFactS.res r frs) ⟨argEnv 0 args, [], []⟩) : Abs.Ret mo Tryz.prog 58 args r frs :=
  Abs.Ret.of_ir Tryz.func58 rfl (by kernel_rfl) (Nat.le_of_ble_eq_true hn) (by kernel_rfl) (by kernel_rfl) h
abbrev szFactS.Ret (args : List AV) (r : AV) (frs : Fr) : Prop := Abs.Ret true Tryz.prog 58 args r frs
def szIntS.code : ACode := (.seq (.region false [s 4 (.mv (.const (.int .i64 0)))]) (.seq (.region false [s 5 (.mv (t 1)), s 6 (.mv (t 0)), s 7 (.len false (t 6)), s 8 (.bin .sub (t 5) (t 7)), s 1 (.mv (t 8))]) (.seq (.seq (.region false [s 9 (.mv (t 1)), s 10 (.bin .lss (t 9) (.const (.int .i64 0)))]) (.cond (t 10) (.seq (.region false [s 4 (.mv (.const (.int .i64 (-1))))]) .ret) .skip)) (.seq (.region false [s 11 (.mv (t 1)), s 4 (.mv (t 11))]) .ret))))
def szIntS.keep : List Nat := [0, 1, 4]
def szIntS.res : List RRes := [.tmp 4]
theorem szIntS.of {mo : Bool} {args : List AV} {r : AV} {frs : Fr} (hn : Nat.ble args.length Tryz.f55.ntmps = true) (h : aCode (Kn mo Tryz.prog) szIntS.keep 0 szIntS.code (doneK szIntS.res r frs) ⟨argEnv 0 args, [], []⟩) : Abs.Ret mo Tryz.prog 55 args r frs :=
  Abs.Ret.of_ir Tryz.func55 rfl (by kernel_rfl) (Nat.le_of_ble_eq_true hn) (by kernel_rfl) (by kernel_rfl) h
abbrev szIntS.Ret (args : List AV) (r : AV) (frs : Fr) : Prop := Abs.Ret true Tryz.prog 55 args r frs
def szNetwork.code : ACode := (.seq (.region false [s 2 (.box (t 0)), s 4 (.mv (.const (.int .i64 0)))]) (.seq (.region false [s 5 (.fadr 0 (t 2)), s 6 (.load false 1 (t 5)), s 7 (.mv (t 1)), s 8 (.call 8 [(t 6), (t 7)]), s 1 (.mv (t 8))]) (.seq (.seq (.region false [s 9 (.mv (t 1)), s 10 (.bin .lss (t 9) (.const (.int .i64 0)))]) (.cond (t 10) (.seq (.region false [s 4 (.mv (.const (.int .i64 (-1))))]) .ret) .skip)) (.seq (.region false [s 11 (.fadr 1 (t 2)), s 12 (.load false 1 (t 11)), s 13 (.mv (t 1)), s 14 (.call 55 [(t 12), (t 13)]), s 1 (.mv (t 14))]) (.seq (.seq (.region false [s 15 (.mv (t 1)), s 16 (.bin .lss (t 15) (.const (.int .i64 0)))]) (.cond (t 16) (.seq (.region false [s 4 (.mv (.const (.int .i64 (-1))))]) .ret) .skip)) (.seq (.region false [s 17 (.fadr 2 (t 2)), s 18 (.load false 1 (t 17)), s 19 (.mv (t 1)), s 20 (.call 56 [(t 18), (t 19)]), s 1 (.mv (t 20))]) (.seq (.seq (.region false [s 21 (.mv (t 1)), s 22 (.bin .lss (t 21) (.const (.int .i64 0)))]) (.cond (t 22) (.seq (.region false [s 4 (.mv (.const (.int .i64 (-1))))]) .ret) .skip)) (.seq (.region false [s 23 (.fadr 3 (t 2)), s 24 (.load false 1 (t 23)), s 25 (.mv (t 1)), s 26 (.call 57 [(t 24), (t 25)]), s 1 (.mv (t 26))]) (.seq (.seq (.region false [s 27 (.mv (t 1)), s 28 (.bin .lss (t 27) (.const (.int .i64 0)))]) (.cond (t 28) (.seq (.region false [s 4 (.mv (.const (.int .i64 (-1))))]) .ret) .skip)) (.seq (.region false [s 29 (.fadr 4 (t 2)), s 30 (.load false 1 (t 29)), s 31 (.mv (t 1)), s 32 (.call 58 [(t 30), (t 31)]), s 1 (.mv (t 32))]) (.seq (.seq (.region false [s 33 (.mv (t 1)), s 34 (.bin .lss (t 33) (.const (.int .i64 0)))]) (.cond (t 34) (.seq (.region false [s 4 (.mv (.const (.int .i64 (-1))))]) .ret) .skip)) (.seq (.region false [s 35 (.mv (t 1)), s 4 (.mv (t 35))]) .ret))))))))))))
def szNetwork.keep : List Nat := [0, 1, 2, 4]
def szNetwork.res : List RRes := [.tmp 4]
theorem szNetwork.of {mo : Bool} {args : List AV} {r : AV} {frs : Fr} (hn : Nat.ble args.length Tryz.f17.ntmps = true) (h : aCode (Kn mo Tryz.prog) szNetwork.keep 0 szNetwork.code (doneK szNetwork.res r frs) ⟨argEnv 0 args, [], []⟩) : Abs.Ret mo Tryz.prog 17 args r frs :=
  Abs.Ret.of_ir Tryz.func17 rfl (by kernel_rfl) (Nat.le_of_ble_eq_true hn) (by kernel_rfl) (by kernel_rfl) h
abbrev szNetwork.Ret (args : List AV) (r : AV) (frs : Fr) : Prop := Abs.Ret true Tryz.prog 17 args r frs
def szNode.code : ACode := (.seq (.region false [s 2 (.box (t 0)), s 4 (.mv (.const (.int .i64 0)))]) (.seq (.region false [s 5 (.fadr 1 (t 2)), s 6 (.load true 5 (t 5)), s 7 (.mv (t 1)), s 8 (.call 157 [(t 6), (t 7)]), s 1 (.mv (t 8))]) (.seq (.seq (.region false [s 9 (.mv (t 1)), s 10 (.bin .lss (t 9) (.const (.int .i64 0)))]) (.cond (t 10) (.seq (.region false [s 4 (.mv (.const (.int .i64 (-1))))]) .ret) .skip)) (.seq (.region false [s 11 (.fadr 7 (t 2)), s 12 (.load false 1 (t 11)), s 13 (.mv (t 1)), s 14 (.call 190 [(t 12), (t 13)]), s 1 (.mv (t 14))]) (.seq (.seq (.region false [s 15 (.mv (t 1)), s 16 (.bin .lss (t 15) (.const (.int .i64 0)))]) (.cond (t 16) (.seq (.region false [s 4 (.mv (.const (.int .i64 (-1))))]) .ret) .skip)) (.seq (.region false [s 17 (.mv (t 1)), s 4 (.mv (t 17))]) .ret))))))
def szNode.keep : List Nat := [0, 1, 2, 4]
def szNode.res : List RRes := [.tmp 4]
theorem szNode.of {mo : Bool} {args : List AV} {r : AV} {frs : Fr} (hn : Nat.ble args.length Tryz.f116.ntmps = true) (h : aCode (Kn mo Tryz.prog) szNode.keep 0 szNode.code (doneK szNode.res r frs) ⟨argEnv 0 args, [], []⟩) : Abs.Ret mo Tryz.prog 116 args r frs :=
  Abs.Ret.of_ir Tryz.func116 rfl (by kernel_rfl) (Nat.le_of_ble_eq_true hn) (by kernel_rfl) (by kernel_rfl) h
abbrev szNode.Ret (args : List AV) (r : AV) (frs : Fr) : Prop := Abs.Ret true Tryz.prog 116 args r frs
def szNodeS.code : ACode := (.seq (.region false [s 4 (.mv (.const (.int .i64 0)))]) (.seq (.region false [s 6 (.mv (t 1)), s 7 (.mv (t 0)), s 8 (.len false (t 7)), s 9 (.bin .sub (t 6) (t 8)), s 1 (.mv (t 9))]) (.seq (.seq (.region false [s 10 (.mv (t 1)), s 11 (.bin .lss (t 10) (.const (.int .i64 0)))]) (.cond (t 11) (.seq (.region false [s 4 (.mv (.const (.int .i64 (-1))))]) .ret) .skip)) (.seq (.seq (.region false [s 5 (.mv (.const (.int .i64 0)))]) (.block 0 (.loop (.seq (.seq (.region false [s 12 (.mv (t 5)), s 13 (.mv (t 0)), s 14 (.len false (t 13)), s 15 (.bin .lss (t 12) (t 14))]) (.cond (t 15) .skip (.exit 0))) (.seq (.block 1 (.seq (.region false [s 18 (.mv (t 0)), s 19 (.mv (t 5)), s 20 (.iadr 8 (t 18) (t 19)), s 21 (.load true 8 (t 20)), s 22 (.mv (t 1)), s 23 (.call 116 [(t 21), (t 22)]), s 1 (.mv (t 23))]) (.seq (.region false [s 24 (.mv (t 1)), s 25 (.bin .lss (t 24) (.const (.int .i64 0)))]) (.cond (t 25) (.seq (.region false [s 4 (.mv (.const (.int .i64 (-1))))]) .ret) .skip)))) (.region false [s 16 (.mv (t 5)), s 17 (.bin .add (t 16) (.const (.int .i64 1))), s 5 (.mv (t 17))])))))) (.seq (.region false [s 26 (.mv (t 1)), s 4 (.mv (t 26))]) .ret)))))
def szNodeS.keep : List Nat := [0, 1, 4, 5]
def szNodeS.res : List RRes := [.tmp 4]
theorem szNodeS.of {mo : Bool} {args : List AV} {r : AV} {frs : Fr} (hn : Nat.ble args.length Tryz.f57.ntmps = true) (h : aCode (Kn mo Tryz.prog) szNodeS.keep 0 szNodeS.code (doneK szNodeS.res r frs) ⟨argEnv 0 args, [], []⟩) : Abs.Ret mo Tryz.prog 57 args r frs :=
  Abs.Ret.of_ir Tryz.func57 rfl (by kernel_rfl) (Nat.le_of_ble_eq_true hn) (by kernel_rfl) (by kernel_rfl) h
abbrev szNodeS.Ret (args : List AV) (r : AV) (frs : Fr) : Prop := Abs.Ret true Tryz.prog 57 args r frs
def szPair.code : ACode := (.seq (.region false [s 2 (.box (t 0)), s 4 (.mv (.const (.int .i64 0)))]) (.seq (.region false [s 5 (.mv (t 1)), s 6 (.fadr 0 (t 2)), s 7 (.load false 1 (t 6)), s 8 (.len true (t 7)), s 9 (.bin .sub (t 5) (t 8)), s 1 (.mv (t 9))]) (.seq (.seq (.region false [s 10 (.mv (t 1)), s 11 (.bin .lss (t 10) (.const (.int .i64 0)))]) (.cond (t 11) (.seq (.region false [s 4 (.mv (.const (.int .i64 (-1))))]) .ret) .skip)) (.seq (.region false [s 12 (.mv (t 1)), s 13 (.fadr 1 (t 2)), s 14 (.load false 1 (t 13)), s 15 (.len true (t 14)), s 16 (.bin .sub (t 12) (t 15)), s 1 (.mv (t 16))]) (.seq (.seq (.region false [s 17 (.mv (t 1)), s 18 (.bin .lss (t 17) (.const (.int .i64 0)))]) (.cond (t 18) (.seq (.region false [s 4 (.mv (.const (.int .i64 (-1))))]) .ret) .skip)) (.seq (.region false [s 19 (.mv (t 1)), s 4 (.mv (t 19))]) .ret))))))
def szPair.keep : List Nat := [0, 1, 2, 4]
def szPair.res : List RRes := [.tmp 4]
theorem szPair.of {mo : Bool} {args : List AV} {r : AV} {frs : Fr} (hn : Nat.ble args.length Tryz.f323.ntmps = true) (h : aCode (Kn mo Tryz.prog) szPair.keep 0 szPair.code (doneK szPair.res r frs) ⟨argEnv 0 args, [], []⟩) : Abs.Ret mo Tryz.prog 323 args r frs :=
  Abs.Ret.of_ir Tryz.func323 rfl (by kernel_rfl) (Nat.le_of_ble_eq_true hn) (by kernel_rfl) (by kernel_rfl) h
abbrev szPair.Ret (args : List AV) (r : AV) (frs : Fr) : Prop := Abs.Ret true Tryz.prog 323 args r frs
def szPairS.code : ACode := (.seq (.region false [s 4 (.mv (.const (.int .i64 0)))]) (.seq (.region false [s 6 (.mv (t 1)), s 7 (.mv (t 0)), s 8 (.len false (t 7)), s 9 (.bin .sub (t 6) (t 8)), s 1 (.mv (t 9))]) (.seq (.seq (.region false [s 10 (.mv (t 1)), s 11 (.bin .lss (t 10) (.const (.int .i64 0)))]) (.cond (t 11) (.seq (.region false [s 4 (.mv (.const (.int .i64 (-1))))]) .ret) .skip)) (.seq (.seq (.region false [s 5 (.mv (.const (.int .i64 0)))]) (.block 0 (.loop (.seq (.seq (.region false [s 12 (.mv (t 5)), s 13 (.mv (t 0)), s 14 (.len false (t 13)), s 15 (.bin .lss (t 12) (t 14))]) (.cond (t 15) .skip (.exit 0))) (.seq (.block 1 (.seq (.region false [s 18 (.mv (t 0)), s 19 (.mv (t 5)), s 20 (.iadr 2 (t 18) (t 19)), s 21 (.load true 2 (t 20)), s 22 (.mv (t 1)), s 23 (.call 323 [(t 21), (t 22)]), s 1 (.mv (t 23))]) (.seq (.region false [s 24 (.mv (t 1)), s 25 (.bin .lss (t 24) (.const (.int .i64 0)))]) (.cond (t 25) (.seq (.region false [s 4 (.mv (.const (.int .i64 (-1))))]) .ret) .skip)))) (.region false [s 16 (.mv (t 5)), s 17 (.bin .add (t 16) (.const (.int .i64 1))), s 5 (.mv (t 17))])))))) (.seq (.region false [s 26 (.mv (t 1)), s 4 (.mv (t 26))]) .ret)))))
def szPairS.keep : List Nat := [0, 1, 4, 5]
def szPairS.res : List RRes := [.tmp 4]
theorem szPairS.of {mo : Bool} {args : List AV} {r : AV} {frs : Fr} (hn : Nat.ble args.length Tryz.f300.ntmps = true) (h : aCode (Kn mo Tryz.prog) szPairS.keep 0 szPairS.code (doneK szPairS.res r frs) ⟨argEnv 0 args, [], []⟩) : Abs.Ret mo Tryz.prog 300 args r frs :=
  Abs.Ret.of_ir Tryz.func300 rfl (by kernel_rfl) (Nat.le_of_ble_eq_true hn) (by kernel_rfl) (by kernel_rfl) h
abbrev szPairS.Ret (args : List AV) (r : AV) (frs : Fr) : Prop := Abs.Ret true Tryz.prog 300 args r frs
def szPattern.code : ACode := (.seq (.region false [s 2 (.box (t 0)), s 4 (.mv (.const (.int .i64 0)))]) (.seq (.region false [s 5 (.mv (t 1)), s 6 (.fadr 0 (t 2)), s 7 (.load false 1 (t 6)), s 8 (.len true (t 7)), s 9 (.bin .sub (t 5) (t 8)), s 1 (.mv (t 9))]) (.seq (.seq (.region false [s 10 (.mv (t 1)), s 11 (.bin .lss (t 10) (.const (.int .i64 0)))]) (.cond (t 11) (.seq (.region false [s 4 (.mv (.const (.int .i64 (-1))))]) .ret) .skip)) (.seq (.region false [s 12 (.fadr 1 (t 2)), s 13 (.load false 1 (t 12)), s 14 (.mv (t 1)), s 15 (.call 191 [(t 13), (t 14)]), s 1 (.mv (t 15))]) (.seq (.seq (.region false [s 16 (.mv (t 1)), s 17 (.bin .lss (t 16) (.const (.int .i64 0)))]) (.cond (t 17) (.seq (.region false [s 4 (.mv (.const (.int .i64 (-1))))]) .ret) .skip)) (.seq (.region false [s 18 (.mv (t 1)), s 4 (.mv (t 18))]) .ret))))))
def szPattern.keep : List Nat := [0, 1, 2, 4]
def szPattern.res : List RRes := [.tmp 4]
theorem szPattern.of {mo : Bool} {args : List AV} {r : AV} {frs : Fr} (hn : Nat.ble args.length Tryz.f189.ntmps = true) (h : aCode (Kn mo Tryz.prog) szPattern.keep 0 szPattern.code (doneK szPattern.res r frs) ⟨argEnv 0 args, [], []⟩) : Abs.Ret mo Tryz.prog 189 args r frs :=
  Abs.Ret.of_ir Tryz.func189 rfl (by kernel_rfl) (Nat.le_of_ble_eq_true hn) (by kernel_rfl) (by kernel_rfl) h
abbrev szPattern.Ret (args : List AV) (r : AV) (frs : Fr) : Prop := Abs.Ret true Tryz.prog 189 args r frs
def szRule.code : ACode := (.seq (.region false [s 2 (.box (t 0)), s 4 (.mv (.const (.int .i64 0)))]) (.seq (.region false [s 5 (.mv (t 1)), s 6 (.fadr 0 (t 2)), s 7 (.load false 1 (t 6)), s 8 (.len true (t 7)), s 9 (.bin .sub (t 5) (t 8)), s 1 (.mv (t 9))]) (.seq (.seq (.region false [s 10 (.mv (t 1)), s 11 (.bin .lss (t 10) (.const (.int .i64 0)))]) (.cond (t 11) (.seq (.region false [s 4 (.mv (.const (.int .i64 (-1))))]) .ret) .skip)) (.seq (.region false [s 12 (.fadr 2 (t 2)), s 13 (.load false 1 (t 12)), s 14 (.mv (t 1)), s 15 (.call 86 [(t 13), (t 14)]), s 1 (.mv (t 15))]) (.seq (.seq (.region false [s 16 (.mv (t 1)), s 17 (.bin .lss (t 16) (.const (.int .i64 0)))]) (.cond (t 17) (.seq (.region false [s 4 (.mv (.const (.int .i64 (-1))))]) .ret) .skip)) (.seq (.region false [s 18 (.fadr 3 (t 2)), s 19 (.load false 1 (t 18)), s 20 (.mv (t 1)), s 21 (.call 87 [(t 19), (t 20)]), s 1 (.mv (t 21))]) (.seq (.seq (.region false [s 22 (.mv (t 1)), s 23 (.bin .lss (t 22) (.const (.int .i64 0)))]) (.cond (t 23) (.seq (.region false [s 4 (.mv (.const (.int .i64 (-1))))]) .ret) .skip)) (.seq (.region false [s 24 (.mv (t 1)), s 4 (.mv (t 24))]) .ret))))))))
def szRule.keep : List Nat := [0, 1, 2, 4]
def szRule.res : List RRes := [.tmp 4]
theorem szRule.of {mo : Bool} {args : List AV} {r : AV} {frs : Fr} (hn : Nat.ble args.length Tryz.f30.ntmps = true) (h : aCode (Kn mo Tryz.prog) szRule.keep 0 szRule.code (doneK szRule.res r frs) ⟨argEnv 0 args, [], []⟩) : Abs.Ret mo Tryz.prog 30 args r frs :=
  Abs.Ret.of_ir Tryz.func30 rfl (by kernel_rfl) (Nat.le_of_ble_eq_true hn) (by kernel_rfl) (by kernel_rfl) h
abbrev szRule.Ret (args : List AV) (r : AV) (frs : Fr) : Prop := Abs.Ret true Tryz.prog 30 args r frs
def szRuleS.code : ACode := (.seq (.region false [s 4 (.mv (.const (.int .i64 0)))]) (.seq (.region false [s 6 (.mv (t 1)), s 7 (.mv (t 0)), s 8 (.len false (t 7)), s 9 (.bin .sub (t 6) (t 8)), s 1 (.mv (t 9))]) (.seq (.seq (.region false [s 10 (.mv (t 1)), s 11 (.bin .lss (t 10) (.const (.int .i64 0)))]) (.cond (t 11) (.seq (.region false [s 4 (.mv (.const (.int .i64 (-1))))]) .ret) .skip)) (.seq (.seq (.region false [s 5 (.mv (.const (.int .i64 0)))]) (.block 0 (.loop (.seq (.seq (.region false [s 12 (.mv (t 5)), s 13 (.mv (t 0)), s 14 (.len false (t 13)), s 15 (.bin .lss (t 12) (t 14))]) (.cond (t 15) .skip (.exit 0))) (.seq (.block 1 (.seq (.region false [s 18 (.mv (t 0)), s 19 (.mv (t 5)), s 20 (.iadr 4 (t 18) (t 19)), s 21 (.load true 4 (t 20)), s 22 (.mv (t 1)), s 23 (.call 30 [(t 21), (t 22)]), s 1 (.mv (t 23))]) (.seq (.region false [s 24 (.mv (t 1)), s 25 (.bin .lss (t 24) (.const (.int .i64 0)))]) (.cond (t 25) (.seq (.region false [s 4 (.mv (.const (.int .i64 (-1))))]) .ret) .skip)))) (.region false [s 16 (.mv (t 5)), s 17 (.bin .add (t 16) (.const (.int .i64 1))), s 5 (.mv (t 17))])))))) (.seq (.region false [s 26 (.mv (t 1)), s 4 (.mv (t 26))]) .ret)))))
def szRuleS.keep : List Nat := [0, 1, 4, 5]
def szRuleS.res : List RRes := [.tmp 4]
theorem szRuleS.of {mo : Bool} {args : List AV} {r : AV} {frs : Fr} (hn : Nat.ble args.length Tryz.f8.ntmps = true) (h : aCode (Kn mo Tryz.prog) szRuleS.keep 0 szRuleS.code (doneK szRuleS.res r frs) ⟨argEnv 0 args, [], []⟩) : Abs.Ret mo Tryz.prog 8 args r frs :=
  Abs.Ret.of_ir Tryz.func8 rfl (by kernel_rfl) (Nat.le_of_ble_eq_true hn) (by kernel_rfl) (by kernel_rfl) h
abbrev szRuleS.Ret (args : List AV) (r : AV) (frs : Fr) : Prop := Abs.Ret true Tryz.prog 8 args r frs
def szStringS.code : ACode := (.seq (.region false [s 4 (.mv (.const (.int .i64 0)))]) (.seq (.region false [s 6 (.mv (t 1)), s 7 (.mv (t 0)), s 8 (.len false (t 7)), s 9 (.bin .sub (t 6) (t 8)), s 1 (.mv (t 9))]) (.seq (.seq (.region false [s 10 (.mv (t 1)), s 11 (.bin .lss (t 10) (.const (.int .i64 0)))]) (.cond (t 11) (.seq (.region false [s 4 (.mv (.const (.int .i64 (-1))))]) .ret) .skip)) (.seq (.seq (.region false [s 5 (.mv (.const (.int .i64 0)))]) (.block 0 (.loop (.seq (.seq (.region false [s 12 (.mv (t 5)), s 13 (.mv (t 0)), s 14 (.len false (t 13)), s 15 (.bin .lss (t 12) (t 14))]) (.cond (t 15) .skip (.exit 0))) (.seq (.block 1 (.seq (.region false [s 18 (.mv (t 1)), s 19 (.mv (t 0)), s 20 (.mv (t 5)), s 21 (.iadr 1 (t 19) (t 20)), s 22 (.load false 1 (t 21)), s 23 (.len true (t 22)), s 24 (.bin .sub (t 18) (t 23)), s 1 (.mv (t 24))]) (.seq (.region false [s 25 (.mv (t 1)), s 26 (.bin .lss (t 25) (.const (.int .i64 0)))]) (.cond (t 26) (.seq (.region false [s 4 (.mv (.const (.int .i64 (-1))))]) .ret) .skip)))) (.region false [s 16 (.mv (t 5)), s 17 (.bin .add (t 16) (.const (.int .i64 1))), s 5 (.mv (t 17))])))))) (.seq (.region false [s 27 (.mv (t 1)), s 4 (.mv (t 27))]) .ret)))))
def szStringS.keep : List Nat := [0, 1, 4, 5]
def szStringS.res : List RRes := [.tmp 4]
theorem szStringS.of {mo : Bool} {args : List AV} {r : AV} {frs : Fr} (hn : Nat.ble args.length Tryz.f191.ntmps = true) (h : aCode (Kn mo Tryz.prog) szStringS.keep 0 szStringS.code (doneK szStringS.res r frs) ⟨argEnv 0 args, [], []⟩) : Abs.Ret mo Tryz.prog 191 args r frs :=
  Abs.Ret.of_ir Tryz.func191 rfl (by kernel_rfl) (Nat.le_of_ble_eq_true hn) (by kernel_rfl) (by kernel_rfl) h
abbrev szStringS.Ret (args : List AV) (r : AV) (frs : Fr) : Prop := Abs.Ret true Tryz.prog 191 args r frs
def szToken.code : ACode := (.seq (.region false [s 2 (.box (t 0)), s 4 (.mv (.const (.int .i64 0)))]) (.seq (.region false [s 5 (.fadr 0 (t 2)), s 6 (.load false 1 (t 5)), s 7 (.mv (t 1)), s 8 (.call 58 [(t 6), (t 7)]), s 1 (.mv (t 8))]) (.seq (.seq (.region false [s 9 (.mv (t 1)), s 10 (.bin .lss (t 9) (.const (.int .i64 0)))]) (.cond (t 10) (.seq (.region false [s 4 (.mv (.const (.int .i64 (-1))))]) .ret) .skip)) (.seq (.region false [s 11 (.fadr 1 (t 2)), s 12 (.load false 1 (t 11)), s 13 (.mv (t 1)), s 14 (.call 300 [(t 12), (t 13)]), s 1 (.mv (t 14))]) (.seq (.seq (.region false [s 15 (.mv (t 1)), s 16 (.bin .lss (t 15) (.const (.int .i64 0)))]) (.cond (t 16) (.seq (.region false [s 4 (.mv (.const (.int .i64 (-1))))]) .ret) .skip)) (.seq (.region false [s 17 (.mv (t 1)), s 4 (.mv (t 17))]) .ret))))))
def szToken.keep : List Nat := [0, 1, 2, 4]
def szToken.res : List RRes := [.tmp 4]
theorem szToken.of {mo : Bool} {args : List AV} {r : AV} {frs : Fr} (hn : Nat.ble args.length Tryz.f255.ntmps = true) (h : aCode (Kn mo Tryz.prog) szToken.keep 0 szToken.code (doneK szToken.res r frs) ⟨argEnv 0 args, [], []⟩) : Abs.Ret mo Tryz.prog 255 args r frs :=
  Abs.Ret.of_ir Tryz.func255 rfl (by kernel_rfl) (Nat.le_of_ble_eq_true hn) (by kernel_rfl) (by kernel_rfl) h
abbrev szToken.Ret (args : List AV) (r : AV) (frs : Fr) : Prop := Abs.Ret true Tryz.prog 255 args r frs
def szTokenS.code : ACode := (.seq (.region false [s 4 (.mv (.const (.int .i64 0)))]) (.seq (.region false [s 6 (.mv (t 1)), s 7 (.mv (t 0)), s 8 (.len false (t 7)), s 9 (.bin .sub (t 6) (t 8)), s 1 (.mv (t 9))]) (.seq (.seq (.region false [s 10 (.mv (t 1)), s 11 (.bin .lss (t 10) (.const (.int .i64 0)))]) (.cond (t 11) (.seq (.region false [s 4 (.mv (.const (.int .i64 (-1))))]) .ret) .skip)) (.seq (.seq (.region false [s 5 (.mv (.const (.int .i64 0)))]) (.block 0 (.loop (.seq (.seq (.region false [s 12 (.mv (t 5)), s 13 (.mv (t 0)), s 14 (.len false (t 13)), s 15 (.bin .lss (t 12) (t 14))]) (.cond (t 15) .skip (.exit 0))) (.seq (.block 1 (.seq (.region false [s 18 (.mv (t 0)), s 19 (.mv (t 5)), s 20 (.iadr 2 (t 18) (t 19)), s 21 (.load true 2 (t 20)), s 22 (.mv (t 1)), s 23 (.call 255 [(t 21), (t 22)]), s 1 (.mv (t 23))]) (.seq (.region false [s 24 (.mv (t 1)), s 25 (.bin .lss (t 24) (.const (.int .i64 0)))]) (.cond (t 25) (.seq (.region false [s 4 (.mv (.const (.int .i64 (-1))))]) .ret) .skip)))) (.region false [s 16 (.mv (t 5)), s 17 (.bin .add (t 16) (.const (.int .i64 1))), s 5 (.mv (t 17))])))))) (.seq (.region false [s 26 (.mv (t 1)), s 4 (.mv (t 26))]) .ret)))))
def szTokenS.keep : List Nat := [0, 1, 4, 5]
def szTokenS.res : List RRes := [.tmp 4]
theorem szTokenS.of {mo : Bool} {args : List AV} {r : AV} {frs : Fr} (hn : Nat.ble args.length Tryz.f190.ntmps = true) (h : aCode (Kn mo Tryz.prog) szTokenS.keep 0 szTokenS.code (doneK szTokenS.res r frs) ⟨argEnv 0 args, [], []⟩) : Abs.Ret mo Tryz.prog 190 args r frs :=
  Abs.Ret.of_ir Tryz.func190 rfl (by kernel_rfl) (Nat.le_of_ble_eq_true hn) (by kernel_rfl) (by kernel_rfl) h
abbrev szTokenS.Ret (args : List AV) (r : AV) (frs : Fr) : Prop := Abs.Ret true Tryz.prog 190 args r frs
def toAction.code : ACode := (.seq (.region false [s 1 (.box (t 0)), s 2 (.alloc [(.int .i64 (.ofNat 0)), (.string (.mk (.mk []))), (.slice none 0 0)])]) (.seq (.region false [s 3 (.alloc [(.int .i64 (.ofNat 0)), (.string (.mk (.mk []))), (.slice none 0 0)])]) (.seq (.region false [s 4 (.fadr 0 (t 1)), s 5 (.load false 1 (t 4)), s 6 (.fadr 0 (t 3)), ⟨none, none, (.store 1 (t 6) (t 5))⟩]) (.seq (.region false [s 7 (.fadr 1 (t 1)), s 8 (.load true 2 (t 7)), s 9 (.call 203 [(t 8)]), s 10 (.fadr 1 (t 3)), ⟨none, none, (.store 2 (t 10) (t 9))⟩]) (.seq (.region false [s 11 (.load true 3 (t 3)), ⟨none, none, (.store 3 (t 2) (t 11))⟩]) .ret)))))
def toAction.keep : List Nat := [0, 1, 2, 3]
def toAction.res : List RRes := [.cell 2 true 3]
theorem toAction.of {mo : Bool} {args : List AV} {r : AV} {frs : Fr} (hn : Nat.ble args.length Tryz.f171.ntmps = true) (h : aCode (Kn mo Tryz.prog) toAction.keep 0 toAction.code (doneK toAction.res r frs) ⟨argEnv 0 args, [], []⟩) : Abs.Ret mo Tryz.prog 171 args r frs :=
  Abs.Ret.of_ir Tryz.func171 rfl (by kernel_rfl) (Nat.le_of_ble_eq_true hn) (by kernel_rfl) (by kernel_rfl) h
abbrev toAction.Ret (args : List AV) (r : AV) (frs : Fr) : Prop := Abs.Ret true Tryz.prog 171 args r frs
def toActionS.code : ACode := (.seq (.region false [s 2 (.mv (.const (.slice none 0 0)))]) (.seq (.region false [s 5 (.mv (t 0)), s 6 (.len false (t 5)), s 7 (.make 141 [(.int .i64 (.ofNat 0)), (.string (.mk (.mk []))), (.slice none 0 0)] 3 48 (t 6)), s 3 (.mv (t 7))]) (.seq (.seq (.region false [s 4 (.mv (.const (.int .i64 0)))]) (.block 0 (.loop (.seq (.seq (.region false [s 8 (.mv (t 4)), s 9 (.mv (t 0)), s 10 (.len false (t 9)), s 11 (.bin .lss (t 8) (t 10))]) (.cond (t 11) .skip (.exit 0))) (.seq (.block 1 (.region false [s 14 (.mv (t 3)), s 15 (.mv (t 4)), s 16 (.mv (t 0)), s 17 (.mv (t 4)), s 18 (.iadr 3 (t 16) (t 17)), s 19 (.load true 3 (t 18)), s 20 (.call 171 [(t 19)]), s 21 (.iadr 3 (t 14) (t 15)), ⟨none, none, (.store 3 (t 21) (t 20))⟩])) (.region false [s 12 (.mv (t 4)), s 13 (.bin .add (t 12) (.const (.int .i64 1))), s 4 (.mv (t 13))])))))) (.seq (.region false [s 22 (.mv (t 3)), s 2 (.mv (t 22))]) .ret))))
def toActionS.keep : List Nat := [0, 2, 3, 4]
def toActionS.res : List RRes := [.tmp 2]
theorem toActionS.of {mo : Bool} {args : List AV} {r : AV} {frs : Fr} (hn : Nat.ble args.length Tryz.f97.ntmps = true) (h : aCode (Kn mo Tryz.prog) toActionS.keep 0 toActionS.code (doneK toActionS.res r frs) ⟨argEnv 0 args, [], []⟩) : Abs.Ret mo Tryz.prog 97 args r frs :=
  Abs.Ret.of_ir Tryz.func97 rfl (by kernel_rfl) (Nat.le_of_ble_eq_true hn) (by kernel_rfl) (by kernel_rfl) h
abbrev toActionS.Ret (args : List AV) (r : AV) (frs : Fr) : Prop := Abs.Ret true Tryz.prog 97 args r frs
def toAlpha.code : ACode := (.seq (.region false [s 1 (.box (t 0)), s 2 (.alloc [(.string (.mk (.mk []))), (.slice none 0 0), (.slice none 0 0)])]) (.seq (.region false [s 3 (.alloc [(.string (.mk (.mk []))), (.slice none 0 0), (.slice none 0 0)])]) (.seq (.region false [s 4 (.fadr 0 (t 1)), s 5 (.load true 2 (t 4)), s 6 (.call 203 [(t 5)]), s 7 (.fadr 0 (t 3)), ⟨none, none, (.store 2 (t 7) (t 6))⟩]) (.seq (.region false [s 8 (.fadr 2 (t 1)), s 9 (.load false 1 (t 8)), s 10 (.call 69 [(t 9)]), s 11 (.fadr 2 (t 3)), ⟨none, none, (.store 1 (t 11) (t 10))⟩]) (.seq (.region false [s 12 (.load true 3 (t 3)), ⟨none, none, (.store 3 (t 2) (t 12))⟩]) .ret)))))
def toAlpha.keep : List Nat := [0, 1, 2, 3]
def toAlpha.res : List RRes := [.cell 2 true 3]
theorem toAlpha.of {mo : Bool} {args : List AV} {r : AV} {frs : Fr} (hn : Nat.ble args.length Tryz.f126.ntmps = true) (h : aCode (Kn mo Tryz.prog) toAlpha.keep 0 toAlpha.code (doneK toAlpha.res r frs) ⟨argEnv 0 args, [], []⟩) : Abs.Ret mo Tryz.prog 126 args r frs :=
  Abs.Ret.of_ir Tryz.func126 rfl (by kernel_rfl) (Nat.le_of_ble_eq_true hn) (by kernel_rfl) (by kernel_rfl) h
abbrev toAlpha.Ret (args : List AV) (r : AV) (frs : Fr) : Prop := Abs.Ret true Tryz.prog 126 args r frs
def toAlphaS.code : ACode := (.seq (.region false [s 2 (.mv (.const (.slice none 0 0)))]) (.seq (.region false [s 5 (.mv (t 0)), s 6 (.len false (t 5)), s 7 (.make 99 [(.string (.mk (.mk []))), (.slice none 0 0), (.slice none 0 0)] 3 64 (t 6)), s 3 (.mv (t 7))]) (.seq (.seq (.region false [s 4 (.mv (.const (.int .i64 0)))]) (.block 0 (.loop (.seq (.seq (.region false [s 8 (.mv (t 4)), s 9 (.mv (t 0)), s 10 (.len false (t 9)), s 11 (.bin .lss (t 8) (t 10))]) (.cond (t 11) .skip (.exit 0))) (.seq (.block 1 (.region false [s 14 (.mv (t 3)), s 15 (.mv (t 4)), s 16 (.mv (t 0)), s 17 (.mv (t 4)), s 18 (.iadr 3 (t 16) (t 17)), s 19 (.load true 3 (t 18)), s 20 (.call 126 [(t 19)]), s 21 (.iadr 3 (t 14) (t 15)), ⟨none, none, (.store 3 (t 21) (t 20))⟩])) (.region false [s 12 (.mv (t 4)), s 13 (.bin .add (t 12) (.const (.int .i64 1))), s 4 (.mv (t 13))])))))) (.seq (.region false [s 22 (.mv (t 3)), s 2 (.mv (t 22))]) .ret))))
def toAlphaS.keep : List Nat := [0, 2, 3, 4]
def toAlphaS.res : List RRes := [.tmp 2]
theorem toAlphaS.of {mo : Bool} {args : List AV} {r : AV} {frs : Fr} (hn : Nat.ble args.length Tryz.f67.ntmps = true) (h : aCode (Kn mo Tryz.prog) toAlphaS.keep 0 toAlphaS.code (doneK toAlphaS.res r frs) ⟨argEnv 0 args, [], []⟩) : Abs.Ret mo Tryz.prog 67 args r frs :=
  Abs.Ret.of_ir Tryz.func67 rfl (by kernel_rfl) (Nat.le_of_ble_eq_true hn) (by kernel_rfl) (by kernel_rfl) h
abbrev toAlphaS.Ret (args : List AV) (r : AV) (frs : Fr) : Prop := Abs.Ret true Tryz.prog 67 args r frs
def toCond.code : ACode := (.seq (.region false [s 1 (.box (t 0)), s 2 (.alloc [(.int .i64 (.ofNat 0)), (.string (.mk (.mk []))), (.slice none 0 0), (.string (.mk (.mk []))), (.string (.mk (.mk [])))])]) (.seq (.region false [s 3 (.alloc [(.int .i64 (.ofNat 0)), (.string (.mk (.mk []))), (.slice none 0 0), (.string (.mk (.mk []))), (.string (.mk (.mk [])))])]) (.seq (.region false [s 4 (.fadr 0 (t 1)), s 5 (.load false 1 (t 4)), s 6 (.fadr 0 (t 3)), ⟨none, none, (.store 1 (t 6) (t 5))⟩]) (.seq (.region false [s 7 (.fadr 1 (t 1)), s 8 (.load true 2 (t 7)), s 9 (.call 203 [(t 8)]), s 10 (.fadr 1 (t 3)), ⟨none, none, (.store 2 (t 10) (t 9))⟩]) (.seq (.region false [s 11 (.fadr 3 (t 1)), s 12 (.load false 1 (t 11)), s 13 (.fadr 3 (t 3)), ⟨none, none, (.store 1 (t 13) (t 12))⟩]) (.seq (.region false [s 14 (.fadr 4 (t 1)), s 15 (.load false 1 (t 14)), s 16 (.fadr 4 (t 3)), ⟨none, none, (.store 1 (t 16) (t 15))⟩]) (.seq (.region false [s 17 (.load true 5 (t 3)), ⟨none, none, (.store 5 (t 2) (t 17))⟩]) .ret)))))))
def toCond.keep : List Nat := [0, 1, 2, 3]
def toCond.res : List RRes := [.cell 2 true 5]
theorem toCond.of {mo : Bool} {args : List AV} {r : AV} {frs : Fr} (hn : Nat.ble args.length Tryz.f170.ntmps = true) (h : aCode (Kn mo Tryz.prog) toCond.keep 0 toCond.code (doneK toCond.res r frs) ⟨argEnv 0 args, [], []⟩) : Abs.Ret mo Tryz.prog 170 args r frs :=
  Abs.Ret.of_ir Tryz.func170 rfl (by kernel_rfl) (Nat.le_of_ble_eq_true hn) (by kernel_rfl) (by kernel_rfl) h
abbrev toCond.Ret (args : List AV) (r : AV) (frs : Fr) : Prop := Abs.Ret true Tryz.prog 170 args r frs
def toCondS.code : ACode := (.seq (.region false [s 2 (.mv (.const (.slice none 0 0)))]) (.seq (.region false [s 5 (.mv (t 0)), s 6 (.len false (t 5)), s 7 (.make 70 [(.int .i64 (.ofNat 0)), (.string (.mk (.mk []))), (.slice none 0 0), (.string (.mk (.mk []))), (.string (.mk (.mk [])))] 5 80 (t 6)), s 3 (.mv (t 7))]) (.seq (.seq (.region false [s 4 (.mv (.const (.int .i64 0)))]) (.block 0 (.loop (.seq (.seq (.region false [s 8 (.mv (t 4)), s 9 (.mv (t 0)), s 10 (.len false (t 9)), s 11 (.bin .lss (t 8) (t 10))]) (.cond (t 11) .skip (.exit 0))) (.seq (.block 1 (.region false [s 14 (.mv (t 3)), s 15 (.mv (t 4)), s 16 (.mv (t 0)), s 17 (.mv (t 4)), s 18 (.iadr 5 (t 16) (t 17)), s 19 (.load true 5 (t 18)), s 20 (.call 170 [(t 19)]), s 21 (.iadr 5 (t 14) (t 15)), ⟨none, none, (.store 5 (t 21) (t 20))⟩])) (.region false [s 12 (.mv (t 4)), s 13 (.bin .add (t 12) (.const (.int .i64 1))), s 4 (.mv (t 13))])))))) (.seq (.region false [s 22 (.mv (t 3)), s 2 (.mv (t 22))]) .ret))))
def toCondS.keep : List Nat := [0, 2, 3, 4]
def toCondS.res : List RRes := [.tmp 2]
theorem toCondS.of {mo : Bool} {args : List AV} {r : AV} {frs : Fr} (hn : Nat.ble args.length Tryz.f96.ntmps = true) (h : aCode (Kn mo Tryz.prog) toCondS.keep 0 toCondS.code (doneK toCondS.res r frs) ⟨argEnv 0 args, [], []⟩) : Abs.Ret mo Tryz.prog 96 args r frs :=
  Abs.Ret.of_ir Tryz.func96 rfl (by kernel_rfl) (Nat.le_of_ble_eq_true hn) (by kernel_rfl) (by kernel_rfl) h
abbrev toCondS.Ret (args : List AV) (r : AV) (frs : Fr) : Prop := Abs.Ret true Tryz.prog 96 args r frs
def toFact.code : ACode := (.seq (.region false [s 1 (.box (t 0)), s 2 (.alloc [(.string (.mk (.mk []))), (.slice none 0 0)])]) (.seq (.region false [s 3 (.alloc [(.string (.mk (.mk []))), (.slice none 0 0)])]) (.seq (.region false [s 4 (.fadr 0 (t 1)), s 5 (.load false 1 (t 4)), s 6 (.fadr 0 (t 3)), ⟨none, none, (.store 1 (t 6) (t 5))⟩]) (.seq (.region false [s 7 (.fadr 1 (t 1)), s 8 (.load false 1 (t 7)), s 9 (.call 205 [(t 8)]), s 10 (.fadr 1 (t 3)), ⟨none, none, (.store 1 (t 10) (t 9))⟩]) (.seq (.region false [s 11 (.load true 2 (t 3)), ⟨none, none, (.store 2 (t 2) (t 11))⟩]) .ret)))))
def toFact.keep : List Nat := [0, 1, 2, 3]
def toFact.res : List RRes := [.cell 2 true 2]
theorem toFact.of {mo : Bool} {args : List AV} {r : AV} {frs : Fr} (hn : Nat.ble args.length Tryz.f128.ntmps = true) (h : aCode (Kn mo Tryz.prog) toFact.keep 0 toFact.code (doneK toFact.res r frs) ⟨argEnv 0 args, [], []⟩) : Abs.Ret mo Tryz.prog 128 args r frs :=
  Abs.Ret.of_ir Tryz.func128 rfl (by kernel_rfl) (Nat.le_of_ble_eq_true hn) (by kernel_rfl) (by kernel_rfl) h
abbrev toFact.Ret (args : List AV) (r : AV) (frs : Fr) : Prop := Abs.Ret true Tryz.prog 128 args r frs
def toFactS.code : ACode := (.seq (.region false [s 2 (.mv (.const (.slice none 0 0)))]) (.seq (.region false [s 5 (.mv (t 0)), s 6 (.len false (t 5)), s 7 (.make 135 [(.string (.mk (.mk []))), (.slice none 0 0)] 2 40 (t 6)), s 3 (.mv (t 7))]) (.seq (.seq (.region false [s 4 (.mv (.const (.int .i64 0)))]) (.block 0 (.loop (.seq (.seq (.region false [s 8 (.mv (t 4)), s 9 (.mv (t 0)), s 10 (.len false (t 9)), s 11 (.bin .lss (t 8) (t 10))]) (.cond (t 11) .skip (.exit 0))) (.seq (.block 1 (.region false [s 14 (.mv (t 3)), s 15 (.mv (t 4)), s 16 (.mv (t 0)), s 17 (.mv (t 4)), s 18 (.iadr 2 (t 16) (t 17)), s 19 (.load true 2 (t 18)), s 20 (.call 128 [(t 19)]), s 21 (.iadr 2 (t 14) (t 15)), ⟨none, none, (.store 2 (t 21) (t 20))⟩])) (.region false [s 12 (.mv (t 4)), s 13 (.bin .add (t 12) (.const (.int .i64 1))), s 4 (.mv (t 13))])))))) (.seq (.region false [s 22 (.mv (t 3)), s 2 (.mv (t 22))]) .ret))))
def toFactS.keep : List Nat := [0, 2, 3, 4]
def toFactS.res : List RRes := [.tmp 2]
theorem toFactS.of {mo : Bool} {args : List AV} {r : AV} {frs : Fr} (hn : Nat.ble args.length Tryz.f69.ntmps = true) (h : aCode (Kn mo Tryz.prog) toFactS.keep 0 toFactS.code (doneK toFactS.res r frs) ⟨argEnv 0 args, [], []⟩) : Abs.Ret mo Tryz.prog 69 args r frs :=
  Abs.Ret.of_ir Tryz.func69 rfl (by kernel_rfl) (Nat.le_of_ble_eq_true hn) (by kernel_rfl) (by kernel_rfl) h
abbrev toFactS.Ret (args : List AV) (r : AV) (frs : Fr) : Prop := Abs.Ret true Tryz.prog 69 args r frs
def toIntS.code : ACode := (.seq (.region false [s 2 (.mv (.const (.slice none 0 0)))]) (.seq (.region false [s 5 (.mv (t 0)), s 6 (.len false (t 5)), s 7 (.make 3 [(.int .i64 (.ofNat 0))] 1 8 (t 6)), s 3 (.mv (t 7))]) (.seq (.seq (.region false [s 4 (.mv (.const (.int .i64 0)))]) (.block 0 (.loop (.seq (.seq (.region false [s 8 (.mv (t 4)), s 9 (.mv (t 0)), s 10 (.len false (t 9)), s 11 (.bin .lss (t 8) (t 10))]) (.cond (t 11) .skip (.exit 0))) (.seq (.block 1 (.region false [s 14 (.mv (t 3)), s 15 (.mv (t 4)), s 16 (.mv (t 0)), s 17 (.mv (t 4)), s 18 (.iadr 1 (t 16) (t 17)), s 19 (.load false 1 (t 18)), s 20 (.iadr 1 (t 14) (t 15)), ⟨none, none, (.store 1 (t 20) (t 19))⟩])) (.region false [s 12 (.mv (t 4)), s 13 (.bin .add (t 12) (.const (.int .i64 1))), s 4 (.mv (t 13))])))))) (.seq (.region false [s 21 (.mv (t 3)), s 2 (.mv (t 21))]) .ret))))
def toIntS.keep : List Nat := [0, 2, 3, 4]
def toIntS.res : List RRes := [.tmp 2]
theorem toIntS.of {mo : Bool} {args : List AV} {r : AV} {frs : Fr} (hn : Nat.ble args.length Tryz.f66.ntmps = true) (h : aCode (Kn mo Tryz.prog) toIntS.keep 0 toIntS.code (doneK toIntS.res r frs) ⟨argEnv 0 args, [], []⟩) : Abs.Ret mo Tryz.prog 66 args r frs :=
  Abs.Ret.of_ir Tryz.func66 rfl (by kernel_rfl) (Nat.le_of_ble_eq_true hn) (by kernel_rfl) (by kernel_rfl) h
abbrev toIntS.Ret (args : List AV) (r : AV) (frs : Fr) : Prop := Abs.Ret true Tryz.prog 66 args r frs
def toNetwork.code : ACode := (.seq (.region false [s 1 (.box (t 0)), s 2 (.alloc [(.slice none 0 0), (.slice none 0 0), (.slice none 0 0), (.slice none 0 0), (.slice none 0 0), (.int .i64 (.ofNat 0))])]) (.seq (.region false [s 3 (.alloc [(.slice none 0 0), (.slice none 0 0), (.slice none 0 0), (.slice none 0 0), (.slice none 0 0), (.int .i64 (.ofNat 0))])]) (.seq (.region false [s 4 (.fadr 0 (t 1)), s 5 (.load false 1 (t 4)), s 6 (.call 10 [(t 5)]), s 7 (.fadr 0 (t 3)), ⟨none, none, (.store 1 (t 7) (t 6))⟩]) (.seq (.region false [s 8 (.fadr 1 (t 1)), s 9 (.load false 1 (t 8)), s 10 (.call 66 [(t 9)]), s 11 (.fadr 1 (t 3)), ⟨none, none, (.store 1 (t 11) (t 10))⟩]) (.seq (.region false [s 12 (.fadr 2 (t 1)), s 13 (.load false 1 (t 12)), s 14 (.call 67 [(t 13)]), s 15 (.fadr 2 (t 3)), ⟨none, none, (.store 1 (t 15) (t 14))⟩]) (.seq (.region false [s 16 (.fadr 3 (t 1)), s 17 (.load false 1 (t 16)), s 18 (.call 68 [(t 17)]), s 19 (.fadr 3 (t 3)), ⟨none, none, (.store 1 (t 19) (t 18))⟩]) (.seq (.region false [s 20 (.fadr 4 (t 1)), s 21 (.load false 1 (t 20)), s 22 (.call 69 [(t 21)]), s 23 (.fadr 4 (t 3)), ⟨none, none, (.store 1 (t 23) (t 22))⟩]) (.seq (.region false [s 24 (.fadr 5 (t 1)), s 25 (.load false 1 (t 24)), s 26 (.fadr 5 (t 3)), ⟨none, none, (.store 1 (t 26) (t 25))⟩]) (.seq (.region false [s 27 (.load true 6 (t 3)), ⟨none, none, (.store 6 (t 2) (t 27))⟩]) .ret)))))))))
def toNetwork.keep : List Nat := [0, 1, 2, 3]
def toNetwork.res : List RRes := [.cell 2 true 6]
theorem toNetwork.of {mo : Bool} {args : List AV} {r : AV} {frs : Fr} (hn : Nat.ble args.length Tryz.f19.ntmps = true) (h : aCode (Kn mo Tryz.prog) toNetwork.keep 0 toNetwork.code (doneK toNetwork.res r frs) ⟨argEnv 0 args, [], []⟩) : Abs.Ret mo Tryz.prog 19 args r frs :=
  Abs.Ret.of_ir Tryz.func19 rfl (by kernel_rfl) (Nat.le_of_ble_eq_true hn) (by kernel_rfl) (by kernel_rfl) h
abbrev toNetwork.Own (args : List AV) (x : Tr) : Prop := Abs.Own true Tryz.prog 19 args x
abbrev toNetwork.Ret (args : List AV) (r : AV) (frs : Fr) : Prop := Abs.Ret true Tryz.prog 19 args r frs
def toNode.code : ACode := (.seq (.region false [s 1 (.box (t 0)), s 2 (.alloc [(.int .i64 (.ofNat 0)), (.int .i64 (.ofNat 0)), (.string (.mk (.mk []))), (.slice none 0 0), (.string (.mk (.mk []))), (.string (.mk (.mk []))), (.int .i64 (.ofNat 0)), (.slice none 0 0)])]) (.seq (.region false [s 3 (.alloc [(.int .i64 (.ofNat 0)), (.int .i64 (.ofNat 0)), (.string (.mk (.mk []))), (.slice none 0 0), (.string (.mk (.mk []))), (.string (.mk (.mk []))), (.int .i64 (.ofNat 0)), (.slice none 0 0)])]) (.seq (.region false [s 4 (.fadr 0 (t 1)), s 5 (.load false 1 (t 4)), s 6 (.fadr 0 (t 3)), ⟨none, none, (.store 1 (t 6) (t 5))⟩]) (.seq (.region false [s 7 (.fadr 1 (t 1)), s 8 (.load true 5 (t 7)), s 9 (.call 170 [(t 8)]), s 10 (.fadr 1 (t 3)), ⟨none, none, (.store 5 (t 10) (t 9))⟩]) (.seq (.region false [s 11 (.fadr 6 (t 1)), s 12 (.load false 1 (t 11)), s 13 (.fadr 6 (t 3)), ⟨none, none, (.store 1 (t 13) (t 12))⟩]) (.seq (.region false [s 14 (.fadr 7 (t 1)), s 15 (.load false 1 (t 14)), s 16 (.call 204 [(t 15)]), s 17 (.fadr 7 (t 3)), ⟨none, none, (.store 1 (t 17) (t 16))⟩]) (.seq (.region false [s 18 (.load true 8 (t 3)), ⟨none, none, (.store 8 (t 2) (t 18))⟩]) .ret)))))))
def toNode.keep : List Nat := [0, 1, 2, 3]
def toNode.res : List RRes := [.cell 2 true 8]
theorem toNode.of {mo : Bool} {args : List AV} {r : AV} {frs : Fr} (hn : Nat.ble args.length Tryz.f127.ntmps = true) (h : aCode (Kn mo Tryz.prog) toNode.keep 0 toNode.code (doneK toNode.res r frs) ⟨argEnv 0 args, [], []⟩) : Abs.Ret mo Tryz.prog 127 args r frs :=
  Abs.Ret.of_ir Tryz.func127 rfl (by kernel_rfl) (Nat.le_of_ble_eq_true hn) (by kernel_rfl) (by kernel_rfl) h
abbrev toNode.Ret (args : List AV) (r : AV) (frs : Fr) : Prop := Abs.Ret true Tryz.prog 127 args r frs
def toNodeS.code : ACode := (.seq (.region false [s 2 (.mv (.const (.slice none 0 0)))]) (.seq (.region false [s 5 (.mv (t 0)), s 6 (.len false (t 5)), s 7 (.make 72 [(.int .i64 (.ofNat 0)), (.int .i64 (.ofNat 0)), (.string (.mk (.mk []))), (.slice none 0 0), (.string (.mk (.mk []))), (.string (.mk (.mk []))), (.int .i64 (.ofNat 0)), (.slice none 0 0)] 8 120 (t 6)), s 3 (.mv (t 7))]) (.seq (.seq (.region false [s 4 (.mv (.const (.int .i64 0)))]) (.block 0 (.loop (.seq (.seq (.region false [s 8 (.mv (t 4)), s 9 (.mv (t 0)), s 10 (.len false (t 9)), s 11 (.bin .lss (t 8) (t 10))]) (.cond (t 11) .skip (.exit 0))) (.seq (.block 1 (.region false [s 14 (.mv (t 3)), s 15 (.mv (t 4)), s 16 (.mv (t 0)), s 17 (.mv (t 4)), s 18 (.iadr 8 (t 16) (t 17)), s 19 (.load true 8 (t 18)), s 20 (.call 127 [(t 19)]), s 21 (.iadr 8 (t 14) (t 15)), ⟨none, none, (.store 8 (t 21) (t 20))⟩])) (.region false [s 12 (.mv (t 4)), s 13 (.bin .add (t 12) (.const (.int .i64 1))), s 4 (.mv (t 13))])))))) (.seq (.region false [s 22 (.mv (t 3)), s 2 (.mv (t 22))]) .ret))))
def toNodeS.keep : List Nat := [0, 2, 3, 4]
def toNodeS.res : List RRes := [.tmp 2]
theorem toNodeS.of {mo : Bool} {args : List AV} {r : AV} {frs : Fr} (hn : Nat.ble args.length Tryz.f68.ntmps = true) (h : aCode (Kn mo Tryz.prog) toNodeS.keep 0 toNodeS.code (doneK toNodeS.res r frs) ⟨argEnv 0 args, [], []⟩) : Abs.Ret mo Tryz.prog 68 args r frs :=
  Abs.Ret.of_ir Tryz.func68 rfl (by kernel_rfl) (Nat.le_of_ble_eq_true hn) (by kernel_rfl) (by kernel_rfl) h
abbrev toNodeS.Ret (args : List AV) (r : AV) (frs : Fr) : Prop := Abs.Ret true Tryz.prog 68 args r frs
def toPair.code : ACode := (.seq (.region false [s 1 (.box (t 0)), s 2 (.alloc [(.string (.mk (.mk []))), (.string (.mk (.mk [])))])]) (.seq (.region false [s 3 (.alloc [(.string (.mk (.mk []))), (.string (.mk (.mk [])))])]) (.seq (.region false [s 4 (.fadr 0 (t 1)), s 5 (.load false 1 (t 4)), s 6 (.fadr 0 (t 3)), ⟨none, none, (.store 1 (t 6) (t 5))⟩]) (.seq (.region false [s 7 (.fadr 1 (t 1)), s 8 (.load false 1 (t 7)), s 9 (.fadr 1 (t 3)), ⟨none, none, (.store 1 (t 9) (t 8))⟩]) (.seq (.region false [s 10 (.load true 2 (t 3)), ⟨none, none, (.store 2 (t 2) (t 10))⟩]) .ret)))))
def toPair.keep : List Nat := [0, 1, 2, 3]
def toPair.res : List RRes := [.cell 2 true 2]
theorem toPair.of {mo : Bool} {args : List AV} {r : AV} {frs : Fr} (hn : Nat.ble args.length Tryz.f324.ntmps = true) (h : aCode (Kn mo Tryz.prog) toPair.keep 0 toPair.code (doneK toPair.res r frs) ⟨argEnv 0 args, [], []⟩) : Abs.Ret mo Tryz.prog 324 args r frs :=
  Abs.Ret.of_ir Tryz.func324 rfl (by kernel_rfl) (Nat.le_of_ble_eq_true hn) (by kernel_rfl) (by kernel_rfl) h
abbrev toPair.Ret (args : List AV) (r : AV) (frs : Fr) : Prop := Abs.Ret true Tryz.prog 324 args r frs
def toPairS.code : ACode := (.seq (.region false [s 2 (.mv (.const (.slice none 0 0)))]) (.seq (.region false [s 5 (.mv (t 0)), s 6 (.len false (t 5)), s 7 (.make 173 [(.string (.mk (.mk []))), (.string (.mk (.mk [])))] 2 32 (t 6)), s 3 (.mv (t 7))]) (.seq (.seq (.region false [s 4 (.mv (.const (.int .i64 0)))]) (.block 0 (.loop (.seq (.seq (.region false [s 8 (.mv (t 4)), s 9 (.mv (t 0)), s 10 (.len false (t 9)), s 11 (.bin .lss (t 8) (t 10))]) (.cond (t 11) .skip (.exit 0))) (.seq (.block 1 (.region false [s 14 (.mv (t 3)), s 15 (.mv (t 4)), s 16 (.mv (t 0)), s 17 (.mv (t 4)), s 18 (.iadr 2 (t 16) (t 17)), s 19 (.load true 2 (t 18)), s 20 (.call 324 [(t 19)]), s 21 (.iadr 2 (t 14) (t 15)), ⟨none, none, (.store 2 (t 21) (t 20))⟩])) (.region false [s 12 (.mv (t 4)), s 13 (.bin .add (t 12) (.const (.int .i64 1))), s 4 (.mv (t 13))])))))) (.seq (.region false [s 22 (.mv (t 3)), s 2 (.mv (t 22))]) .ret))))
def toPairS.keep : List Nat := [0, 2, 3, 4]
def toPairS.res : List RRes := [.tmp 2]
theorem toPairS.of {mo : Bool} {args : List AV} {r : AV} {frs : Fr} (hn : Nat.ble args.length Tryz.f302.ntmps = true) (h : aCode (Kn mo Tryz.prog) toPairS.keep 0 toPairS.code (doneK toPairS.res r frs) ⟨argEnv 0 args, [], []⟩) : Abs.Ret mo Tryz.prog 302 args r frs :=
  Abs.Ret.of_ir Tryz.func302 rfl (by kernel_rfl) (Nat.le_of_ble_eq_true hn) (by kernel_rfl) (by kernel_rfl) h
abbrev toPairS.Ret (args : List AV) (r : AV) (frs : Fr) : Prop := Abs.Ret true Tryz.prog 302 args r frs
def toPattern.code : ACode := (.seq (.region false [s 1 (.box (t 0)), s 2 (.alloc [(.string (.mk (.mk []))), (.slice none 0 0)])]) (.seq (.region false [s 3 (.alloc [(.string (.mk (.mk []))), (.slice none 0 0)])]) (.seq (.region false [s 4 (.fadr 0 (t 1)), s 5 (.load false 1 (t 4)), s 6 (.fadr 0 (t 3)), ⟨none, none, (.store 1 (t 6) (t 5))⟩]) (.seq (.region false [s 7 (.fadr 1 (t 1)), s 8 (.load false 1 (t 7)), s 9 (.call 205 [(t 8)]), s 10 (.fadr 1 (t 3)), ⟨none, none, (.store 1 (t 10) (t 9))⟩]) (.seq (.region false [s 11 (.load true 2 (t 3)), ⟨none, none, (.store 2 (t 2) (t 11))⟩]) .ret)))))
def toPattern.keep : List Nat := [0, 1, 2, 3]
def toPattern.res : List RRes := [.cell 2 true 2]
theorem toPattern.of {mo : Bool} {args : List AV} {r : AV} {frs : Fr} (hn : Nat.ble args.length Tryz.f203.ntmps = true) (h : aCode (Kn mo Tryz.prog) toPattern.keep 0 toPattern.code (doneK toPattern.res r frs) ⟨argEnv 0 args, [], []⟩) : Abs.Ret mo Tryz.prog 203 args r frs :=
  Abs.Ret.of_ir Tryz.func203 rfl (by kernel_rfl) (Nat.le_of_ble_eq_true hn) (by kernel_rfl) (by kernel_rfl) h
abbrev toPattern.Ret (args : List AV) (r : AV) (frs : Fr) : Prop := Abs.Ret true Tryz.prog 203 args r frs
def toRule.code : ACode := (.seq (.region false [s 1 (.box (t 0)), s 2 (.alloc [(.string (.mk (.mk []))), (.int .i64 (.ofNat 0)), (.slice none 0 0), (.slice none 0 0)])]) (.seq (.region false [s 3 (.alloc [(.string (.mk (.mk []))), (.int .i64 (.ofNat 0)), (.slice none 0 0), (.slice none 0 0)])]) (.seq (.region false [s 4 (.fadr 0 (t 1)), s 5 (.load false 1 (t 4)), s 6 (.fadr 0 (t 3)), ⟨none, none, (.store 1 (t 6) (t 5))⟩]) (.seq (.region false [s 7 (.fadr 1 (t 1)), s 8 (.load false 1 (t 7)), s 9 (.fadr 1 (t 3)), ⟨none, none, (.store 1 (t 9) (t 8))⟩]) (.seq (.region false [s 10 (.fadr 2 (t 1)), s 11 (.load false 1 (t 10)), s 12 (.call 96 [(t 11)]), s 13 (.fadr 2 (t 3)), ⟨none, none, (.store 1 (t 13) (t 12))⟩]) (.seq (.region false [s 14 (.fadr 3 (t 1)), s 15 (.load false 1 (t 14)), s 16 (.call 97 [(t 15)]), s 17 (.fadr 3 (t 3)), ⟨none, none, (.store 1 (t 17) (t 16))⟩]) (.seq (.region false [s 18 (.load true 4 (t 3)), ⟨none, none, (.store 4 (t 2) (t 18))⟩]) .ret)))))))
def toRule.keep : List Nat := [0, 1, 2, 3]
def toRule.res : List RRes := [.cell 2 true 4]
theorem toRule.of {mo : Bool} {args : List AV} {r : AV} {frs : Fr} (hn : Nat.ble args.length Tryz.f35.ntmps = true) (h : aCode (Kn mo Tryz.prog) toRule.keep 0 toRule.code (doneK toRule.res r frs) ⟨argEnv 0 args, [], []⟩) : Abs.Ret mo Tryz.prog 35 args r frs :=
  Abs.Ret.of_ir Tryz.func35 rfl (by kernel_rfl) (Nat.le_of_ble_eq_true hn) (by kernel_rfl) (by kernel_rfl) h
abbrev toRule.Ret (args : List AV) (r : AV) (frs : Fr) : Prop := Abs.Ret true Tryz.prog 35 args r frs
def toRuleS.code : ACode := (.seq (.region false [s 2 (.mv (.const (.slice none 0 0)))]) (.seq (.region false [s 5 (.mv (t 0)), s 6 (.len false (t 5)), s 7 (.make 77 [(.string (.mk (.mk []))), (.int .i64 (.ofNat 0)), (.slice none 0 0), (.slice none 0 0)] 4 72 (t 6)), s 3 (.mv (t 7))]) (.seq (.seq (.region false [s 4 (.mv (.const (.int .i64 0)))]) (.block 0 (.loop (.seq (.seq (.region false [s 8 (.mv (t 4)), s 9 (.mv (t 0)), s 10 (.len false (t 9)), s 11 (.bin .lss (t 8) (t 10))]) (.cond (t 11) .skip (.exit 0))) (.seq (.block 1 (.region false [s 14 (.mv (t 3)), s 15 (.mv (t 4)), s 16 (.mv (t 0)), s 17 (.mv (t 4)), s 18 (.iadr 4 (t 16) (t 17)), s 19 (.load true 4 (t 18)), s 20 (.call 35 [(t 19)]), s 21 (.iadr 4 (t 14) (t 15)), ⟨none, none, (.store 4 (t 21) (t 20))⟩])) (.region false [s 12 (.mv (t 4)), s 13 (.bin .add (t 12) (.const (.int .i64 1))), s 4 (.mv (t 13))])))))) (.seq (.region false [s 22 (.mv (t 3)), s 2 (.mv (t 22))]) .ret))))
def toRuleS.keep : List Nat := [0, 2, 3, 4]
def toRuleS.res : List RRes := [.tmp 2]
theorem toRuleS.of {mo : Bool} {args : List AV} {r : AV} {frs : Fr} (hn : Nat.ble args.length Tryz.f10.ntmps = true) (h : aCode (Kn mo Tryz.prog) toRuleS.keep 0 toRuleS.code (doneK toRuleS.res r frs) ⟨argEnv 0 args, [], []⟩) : Abs.Ret mo Tryz.prog 10 args r frs :=
  Abs.Ret.of_ir Tryz.func10 rfl (by kernel_rfl) (Nat.le_of_ble_eq_true hn) (by kernel_rfl) (by kernel_rfl) h
abbrev toRuleS.Ret (args : List AV) (r : AV) (frs : Fr) : Prop := Abs.Ret true Tryz.prog 10 args r frs
def toStringS.code : ACode := (.seq (.region false [s 2 (.mv (.const (.slice none 0 0)))]) (.seq (.region false [s 5 (.mv (t 0)), s 6 (.len false (t 5)), s 7 (.make 9 [(.string (.mk (.mk [])))] 1 16 (t 6)), s 3 (.mv (t 7))]) (.seq (.seq (.region false [s 4 (.mv (.const (.int .i64 0)))]) (.block 0 (.loop (.seq (.seq (.region false [s 8 (.mv (t 4)), s 9 (.mv (t 0)), s 10 (.len false (t 9)), s 11 (.bin .lss (t 8) (t 10))]) (.cond (t 11) .skip (.exit 0))) (.seq (.block 1 (.region false [s 14 (.mv (t 3)), s 15 (.mv (t 4)), s 16 (.mv (t 0)), s 17 (.mv (t 4)), s 18 (.iadr 1 (t 16) (t 17)), s 19 (.load false 1 (t 18)), s 20 (.iadr 1 (t 14) (t 15)), ⟨none, none, (.store 1 (t 20) (t 19))⟩])) (.region false [s 12 (.mv (t 4)), s 13 (.bin .add (t 12) (.const (.int .i64 1))), s 4 (.mv (t 13))])))))) (.seq (.region false [s 21 (.mv (t 3)), s 2 (.mv (t 21))]) .ret))))
def toStringS.keep : List Nat := [0, 2, 3, 4]
def toStringS.res : List RRes := [.tmp 2]
theorem toStringS.of {mo : Bool} {args : List AV} {r : AV} {frs : Fr} (hn : Nat.ble args.length Tryz.f205.ntmps = true) (h : aCode (Kn mo Tryz.prog) toStringS.keep 0 toStringS.code (doneK toStringS.res r frs) ⟨argEnv 0 args, [], []⟩) : Abs.Ret mo Tryz.prog 205 args r frs :=
  Abs.Ret.of_ir Tryz.func205 rfl (by kernel_rfl) (Nat.le_of_ble_eq_true hn) (by kernel_rfl) (by kernel_rfl) h
abbrev toStringS.Ret (args : List AV) (r : AV) (frs : Fr) : Prop := Abs.Ret true Tryz.prog 205 args r frs
def toToken.code : ACode := (.seq (.region false [s 1 (.box (t 0)), s 2 (.alloc [(.slice none 0 0), (.slice none 0 0)])]) (.seq (.region false [s 3 (.alloc [(.slice none 0 0), (.slice none 0 0)])]) (.seq (.region false [s 4 (.fadr 0 (t 1)), s 5 (.load false 1 (t 4)), s 6 (.call 69 [(t 5)]), s 7 (.fadr 0 (t 3)), ⟨none, none, (.store 1 (t 7) (t 6))⟩]) (.seq (.region false [s 8 (.fadr 1 (t 1)), s 9 (.load false 1 (t 8)), s 10 (.call 302 [(t 9)]), s 11 (.fadr 1 (t 3)), ⟨none, none, (.store 1 (t 11) (t 10))⟩]) (.seq (.region false [s 12 (.load true 2 (t 3)), ⟨none, none, (.store 2 (t 2) (t 12))⟩]) .ret)))))
def toToken.keep : List Nat := [0, 1, 2, 3]
def toToken.res : List RRes := [.cell 2 true 2]
theorem toToken.of {mo : Bool} {args : List AV} {r : AV} {frs : Fr} (hn : Nat.ble args.length Tryz.f258.ntmps = true) (h : aCode (Kn mo Tryz.prog) toToken.keep 0 toToken.code (doneK toToken.res r frs) ⟨argEnv 0 args, [], []⟩) : Abs.Ret mo Tryz.prog 258 args r frs :=
  Abs.Ret.of_ir Tryz.func258 rfl (by kernel_rfl) (Nat.le_of_ble_eq_true hn) (by kernel_rfl) (by kernel_rfl) h
abbrev toToken.Ret (args : List AV) (r : AV) (frs : Fr) : Prop := Abs.Ret true Tryz.prog 258 args r frs
def toTokenS.code : ACode := (.seq (.region false [s 2 (.mv (.const (.slice none 0 0)))]) (.seq (.region false [s 5 (.mv (t 0)), s 6 (.len false (t 5)), s 7 (.make 64 [(.slice none 0 0), (.slice none 0 0)] 2 48 (t 6)), s 3 (.mv (t 7))]) (.seq (.seq (.region false [s 4 (.mv (.const (.int .i64 0)))]) (.block 0 (.loop (.seq (.seq (.region false [s 8 (.mv (t 4)), s 9 (.mv (t 0)), s 10 (.len false (t 9)), s 11 (.bin .lss (t 8) (t 10))]) (.cond (t 11) .skip (.exit 0))) (.seq (.block 1 (.region false [s 14 (.mv (t 3)), s 15 (.mv (t 4)), s 16 (.mv (t 0)), s 17 (.mv (t 4)), s 18 (.iadr 2 (t 16) (t 17)), s 19 (.load true 2 (t 18)), s 20 (.call 258 [(t 19)]), s 21 (.iadr 2 (t 14) (t 15)), ⟨none, none, (.store 2 (t 21) (t 20))⟩])) (.region false [s 12 (.mv (t 4)), s 13 (.bin .add (t 12) (.const (.int .i64 1))), s 4 (.mv (t 13))])))))) (.seq (.region false [s 22 (.mv (t 3)), s 2 (.mv (t 22))]) .ret))))
def toTokenS.keep : List Nat := [0, 2, 3, 4]
def toTokenS.res : List RRes := [.tmp 2]
theorem toTokenS.of {mo : Bool} {args : List AV} {r : AV} {frs : Fr} (hn : Nat.ble args.length Tryz.f204.ntmps = true) (h : aCode (Kn mo Tryz.prog) toTokenS.keep 0 toTokenS.code (doneK toTokenS.res r frs) ⟨argEnv 0 args, [], []⟩) : Abs.Ret mo Tryz.prog 204 args r frs :=
  Abs.Ret.of_ir Tryz.func204 rfl (by kernel_rfl) (Nat.le_of_ble_eq_true hn) (by kernel_rfl) (by kernel_rfl) h
abbrev toTokenS.Ret (args : List AV) (r : AV) (frs : Fr) : Prop := Abs.Ret true Tryz.prog 204 args r frs
end Go.Proofs.YtfnejdkkhpjhmaaGreatDoor
namespace Go.Proofs.YtfnejdkkhpjhmaaGreatDoor
open Abs
def part (z : List AV) (xs : List (List AV)) (i : Nat) : List AV := (xs.take i).flatten ++ (List.replicate (xs.length - i) z).flatten
theorem setAt_mid {α : Type} : ∀ (x a b c : List α), b.length = x.length → setAt (a ++ b ++ c) a.length x = a ++ x ++ c
  | [], a, b, c, h => by cases b with
    | nil => rfl
    | cons _ _ => simp at h
  | y :: x, a, b, c, h => by
    cases b with
    | nil => simp at h
    | cons b0 b =>
      have h1 : (a ++ b0 :: b ++ c).set a.length y = (a ++ [y]) ++ b ++ c := by simp
      have h2 : a.length + 1 = (a ++ [y]).length := by simp
      rw [setAt, h1, h2, setAt_mid x (a ++ [y]) b c (by simpa using h)]
      simp
theorem part_set {z : List AV} {xs : List (List AV)} {i sz : Nat} (hz : z.length = sz) (hx : ∀ x ∈ xs, x.length = sz) {x : List AV} (hi : xs[i]? = some x) : setAt (part z xs i) (i * sz) x = part z xs (i + 1) := by
  have hlt := getElem?_lt hi
  have h1 : (xs.take i).flatten.length = i * sz := by rw [length_flatten' sz _ (fun x h => hx x (List.mem_of_mem_take h)), List.length_take]; congr 1; omega
  obtain ⟨k, hk⟩ : ∃ k, xs.length - i = k + 1 := ⟨xs.length - i - 1, by omega⟩
  have hk2 : xs.length - (i + 1) = k := by omega
  have h2 : part z xs i = (xs.take i).flatten ++ z ++ (List.replicate k z).flatten := by
    rw [part, hk, List.replicate_succ, List.flatten_cons, List.append_assoc]
  have h3 : xs.take (i + 1) = xs.take i ++ [x] := by rw [List.take_add_one, hi]; rfl
  rw [h2, ← h1, setAt_mid _ _ _ _ (by rw [hz, hx x (List.mem_of_getElem? hi)]), part, hk2, h3]
  simp
theorem part_made {z : List Value} {xs : List (List AV)} {sz m : Nat} (hz : z.length = sz) (hp : 0 < sz) (hm : m = xs.length * sz) : madeK z m = part (z.map constAV) xs 0 := by
  subst hm
  have h1 : (List.replicate xs.length (z.map constAV)).flatten.length = xs.length * sz := by rw [length_flatten' sz]; · simp
                                                                                             · intro x hx; rw [List.eq_of_mem_replicate hx]; simp [hz]
  apply List.ext_getElem?
  intro i
  by_cases hi : i < xs.length * sz
  · have hq : i / sz < xs.length := (Nat.div_lt_iff_lt_mul hp).2 hi
    have hr : i % sz < sz := Nat.mod_lt _ hp
    have hf := flatten_get sz (List.replicate xs.length (z.map constAV)) (i / sz) (i % sz) (z.map constAV) (constAV (z.getD (i % sz) undef)) (fun x hx => by rw [List.eq_of_mem_replicate hx]; simp [hz]) (by simp [hq]) (by simp [hz, hr, List.getD])
    rw [show i / sz * sz + i % sz = i by rw [Nat.mul_comm]; exact Nat.div_add_mod _ _] at hf
    simp only [part, List.take_zero, List.flatten_nil, List.nil_append, Nat.sub_zero]
    rw [hf, madeK]
    simp [hi, hz]
  · rw [List.getElem?_eq_none (by simp [madeK]; omega)]
    simp only [part, List.take_zero, List.flatten_nil, List.nil_append, Nat.sub_zero]
    rw [List.getElem?_eq_none (by rw [h1]; omega)]
theorem part_all (z : List AV) (xs : List (List AV)) : part z xs xs.length = xs.flatten := by simp [part]
theorem part_len {z : List AV} {xs : List (List AV)} {i sz : Nat} (hz : z.length = sz) (hx : ∀ x ∈ xs, x.length = sz) (hi : i ≤ xs.length) : (part z xs i).length = xs.length * sz := by
  rw [part, List.length_append, length_flatten' sz _ (fun x h => hx x (List.mem_of_mem_take h)), length_flatten' sz _ (fun x h => by rw [List.eq_of_mem_replicate h]; exact hz), List.length_take, List.length_replicate, ← Nat.add_mul]
  congr 1; omega
theorem strs_get {l : List Str} {i : Nat} (hi : i < l.length) : (strs l)[i]? = some [.str (l.getD i [])] := by simp [strs_eq, List.getD, hi]
theorem toStringS.ret (l : List Str) (hl : l.length ≤ 1048576) : toStringS.Ret [.list none (strs l)] (.list (some 0) (strs l)) [(9, 1, l.length)] := by
  refine toStringS.of rfl ?_
  repeat' first
    | (conv => whnf
       first | refine Need.fin ?_)
  refine ALoop.mk Nat (fun i => ⟨[(0, .list none (strs l)), (3, .bsl 0 l.length), (4, .val (.int .i64 i))], [.cells (.row 9 1) (part [.str []] (strs l) i)], []⟩) (fun i => i ≤ l.length) (fun i => l.length - i) ⟨0, Nat.zero_le _, ?_⟩ (fun i hi => ?_)
  · repeat' first
      | exact trivial | refine Weak.mk ?_ ?_ ?_ ?_ (Or.inl (Nat.le_of_ble_eq_true rfl)) | refine And.intro ?_ ?_ | with_reducible rfl | exact Nat.le_of_ble_eq_true rfl | refine AV.int_congr ?_ | refine AV.list_congr ?_ | refine AV.bsl_congr ?_ ?_ | (apply rfl)
    · simp
    · simp only [List.nil_append, List.length_cons, List.length_nil, List.take_succ_cons, List.take_zero]
      rw [part_made (xs := strs l) (sz := 1) rfl (by decide) (by simp)]; rfl
  repeat' first
    | (conv => whnf
       first | refine Need.mk rfl ?_ | refine Need.fin ?_ | refine Need.mk ?_ ?_ | refine Ix.strsF rfl ?_ | refine Fork.dec (fun _ => ?_) (fun _ => ?_) | refine Round.mk ?_)
  · rename_i h
    rw [length_strs] at h
    rw [part_len (sz := 1) rfl (strs_sz l) (by simp; exact hi), Int.toNat_natCast, length_strs]
    exact ⟨rfl, by omega⟩
  · rename_i h
    rw [length_strs] at h
    refine ⟨i + 1, by omega, ?_, by omega⟩
    repeat' first
      | exact trivial | refine Weak.mk ?_ ?_ ?_ ?_ (Or.inl (Nat.le_of_ble_eq_true rfl)) | refine And.intro ?_ ?_ | with_reducible rfl | exact Nat.le_of_ble_eq_true rfl | refine AV.int_congr ?_ | refine AV.list_congr ?_ | refine AV.bsl_congr ?_ ?_
    · rw [wrap64 (by omega) (by omega)]; rfl
    · simp only [Int.toNat_natCast]
      have := part_set (z := [.str []]) (sz := 1) rfl (strs_sz l) (strs_get (l := l) (i := i) (by omega))
      simp only [List.set_cons_zero, List.take_succ_cons, List.take_zero, List.length_cons, List.length_nil, this]
  · rename_i h
    rw [length_strs] at h
    conv => whnf
    have : i = l.length := by omega
    subst this
    refine FreezeD.flat (Freeze.mk (strs l) _ 9 1 rfl (by have := part_all [.str []] (strs l); rwa [length_strs] at this) (by simp) (strs_sz l) (fun c hc => ?_) ?_)
    · have e := part_all [.str []] (strs l)
      rw [length_strs] at e
      rw [e, List.mem_flatten] at hc
      obtain ⟨x, hx, hc⟩ := hc
      rw [strs_eq] at hx
      obtain ⟨s, _, rfl⟩ := List.mem_map.1 hx
      simp at hc; subst hc; rfl
    · exact Final.mk rfl rfl
theorem eqStringS.ret (l m : List Str) (hl : l.length ≤ 1099511627776) : eqStringS.Ret [.list none (strs l), .list none (strs m)] (.val (.bool (decide (l = m)))) [] := by
  refine eqStringS.of rfl ?_
  repeat' first
    | (conv => whnf
       first | refine Need.mk rfl ?_ | refine Fork.bne (fun _ => ?_) (fun _ => ?_) | refine FinVal.keep ?_ | refine Final.mk ?_ rfl)
    | refine AV.bool_congr ?_
  · rename_i h
    rw [length_strs, length_strs] at h
    have h3 : ¬ l = m := fun e => h (by rw [e])
    simp [h3]
  rename_i h
  rw [length_strs, length_strs] at h
  have h : l.length = m.length := by omega
  skip
  refine ALoop.mk Nat (fun i => ⟨[(0, .list none (strs l)), (1, .list none (strs m)), (5, .val (.int .i64 i))], [], []⟩) (fun i => i ≤ l.length ∧ l.take i = m.take i) (fun i => l.length - i) ⟨0, ⟨Nat.zero_le _, rfl⟩, ?_⟩ (fun i hi => ?_)
  · repeat' first
      | exact trivial | refine Weak.mk ?_ ?_ ?_ ?_ (Or.inl (Nat.le_of_ble_eq_true rfl)) | refine And.intro ?_ ?_ | with_reducible rfl | exact Nat.le_of_ble_eq_true rfl | refine AV.int_congr ?_ | refine AV.list_congr ?_ | (apply rfl)
  repeat' first
    | (conv => whnf
       first | refine Need.mk rfl ?_ | refine Ix.strsF rfl ?_ | refine Fork.dec (fun _ => ?_) (fun _ => ?_) | refine Fork.sne (fun _ => ?_) (fun _ => ?_) | refine Round.mk ?_ | refine FinVal.keep ?_ | refine Final.mk ?_ rfl)
    | refine AV.bool_congr ?_
  · rename_i h1 h2
    have h3 : ¬ l = m := fun e => h2 (by rw [e])
    simp [h3]
  · rename_i h1 h2
    rw [length_strs] at h1
    refine ⟨i + 1, ⟨by omega, ?_⟩, ?_, by omega⟩
    · rw [take_succ' [] (by omega), take_succ' (l := m) [] (by omega), hi.2]
      rw [Int.toNat_natCast] at h2
      have h2' : l.getD i [] = m.getD i [] := h2
      rw [h2']
    · repeat' first
        | exact trivial | refine Weak.mk ?_ ?_ ?_ ?_ (Or.inl (Nat.le_of_ble_eq_true rfl)) | refine And.intro ?_ ?_ | with_reducible rfl | exact Nat.le_of_ble_eq_true rfl | refine AV.int_congr ?_ | refine AV.list_congr ?_ | (apply rfl)
      rw [wrap64 (by omega) (by omega)]; rfl
  · rename_i h1
    rw [length_strs] at h1
    have h2 := hi.2
    rw [List.take_of_length_le (by omega), List.take_of_length_le (by omega)] at h2
    simp [h2]
def szL : List Str → Nat
  | [] => 0
  | s :: l => s.length + szL l
def szT (l : List Str) : Nat := l.length + szL l
theorem szL_take_succ {l : List Str} {i : Nat} (hi : i < l.length) : szL (l.take (i + 1)) = szL (l.take i) + (l.getD i []).length := by
  induction l generalizing i with
  | nil => simp at hi
  | cons s l ih =>
    cases i with
    | zero => simp [szL]
    | succ i => simp only [List.take_succ_cons, szL, ih (show i < l.length by simpa using hi)]; simp [Nat.add_assoc]
theorem szL_le_take (l : List Str) (i : Nat) : szL (l.take i) ≤ szL l := by
  induction l generalizing i with
  | nil => simp [szL]
  | cons s l ih => cases i with
    | zero => simp [szL]
    | succ i => simp only [List.take_succ_cons, szL]; have := ih i; omega
/-- what is left of a, or -1 -/
def left (a : Int) (n : Nat) : Int := if a - n < 0 then -1 else a - n
theorem left_eq {a : Int} {n : Nat} {x : Int} (h : (x = -1 ∧ a < n) ∨ (x = a - n ∧ ¬ a < n)) : x = left a n := by unfold left; split <;> omega
theorem szStringS.ret (l : List Str) (a : Int) (h0 : 0 ≤ a) (ha : a ≤ 1048576) (hl : l.length ≤ 9223372036854775807) (hs : ∀ s ∈ l, s.length ≤ 9223372036854775807) :
    szStringS.Ret [.list none (strs l), .val (.int .i64 a)] (.val (.int .i64 (left a (szT l)))) [] := by
  refine szStringS.of rfl ?_
  have hw : IntKind.i64.wrap (a - ((strs l).length : Int)) = a - l.length := by rw [length_strs]; exact wrap64 (by omega) (by omega)
  repeat' first
    | (conv => whnf
       first | refine Need.mk rfl ?_ | refine Fork.dec (fun _ => ?_) (fun _ => ?_) | refine FinVal.keep ?_ | refine Final.mk ?_ rfl)
    | refine AV.int_congr ?_
  · rename_i h
    rw [hw] at h
    rw [left, if_pos (by unfold szT; omega)]
  rename_i h
  rw [hw] at h
  skip
  refine ALoop.mk Nat (fun i => ⟨[(0, .list none (strs l)), (1, .val (.int .i64 (a - l.length - szL (l.take i)))), (5, .val (.int .i64 i))], [], []⟩) (fun i => i ≤ l.length ∧ (0 : Int) ≤ a - l.length - szL (l.take i)) (fun i => l.length - i) ⟨0, ⟨Nat.zero_le _, by simp [szL]; omega⟩, ?_⟩ (fun i hi => ?_)
  · repeat' first
      | exact trivial | refine Weak.mk ?_ ?_ ?_ ?_ (Or.inl (Nat.le_of_ble_eq_true rfl)) | refine And.intro ?_ ?_ | with_reducible rfl | exact Nat.le_of_ble_eq_true rfl | refine AV.int_congr ?_ | refine AV.list_congr ?_ | (apply rfl)
    rw [hw]; simp [szL]
  obtain ⟨hp1, hp2⟩ := hi
  have hg : ∀ i, (l.getD i []).length ≤ 9223372036854775807 := fun i => by
    rcases Nat.lt_or_ge i l.length with h | h
    · simp only [List.getD, List.getElem?_eq_getElem h, Option.getD_some]; exact hs _ (List.getElem_mem h)
    · simp [List.getD, List.getElem?_eq_none h]
  repeat' first
    | (conv => whnf
       first | refine Need.mk rfl ?_ | refine Ix.strsF rfl ?_ | refine Fork.dec (fun _ => ?_) (fun _ => ?_) | refine Round.mk ?_ | refine FinVal.keep ?_ | refine Final.mk ?_ rfl)
    | refine AV.int_congr ?_
  · rename_i h1 h2
    rw [length_strs] at h1
    have h4 := hg i
    have h3 := szL_take_succ (l := l) (i := i) (by omega)
    have h5 := szL_le_take l (i + 1)
    change IntKind.i64.wrap (a - ↑l.length - ↑(szL (l.take i)) - ((l.getD i []).length : Int)) < 0 at h2
    rw [wrap64 (by omega) (by omega)] at h2
    rw [left, if_pos (by unfold szT; omega)]
  · rename_i h1 h2
    rw [length_strs] at h1
    have h4 := hg i
    have h3 := szL_take_succ (l := l) (i := i) (by omega)
    change ¬ IntKind.i64.wrap (a - ↑l.length - ↑(szL (l.take i)) - ((l.getD i []).length : Int)) < 0 at h2
    rw [wrap64 (by omega) (by omega)] at h2
    refine ⟨i + 1, ⟨by omega, by omega⟩, ?_, by omega⟩
    repeat' first
      | exact trivial | refine Weak.mk ?_ ?_ ?_ ?_ (Or.inl (Nat.le_of_ble_eq_true rfl)) | refine And.intro ?_ ?_ | with_reducible rfl | exact Nat.le_of_ble_eq_true rfl | refine AV.int_congr ?_ | refine AV.list_congr ?_ | (apply rfl)
    · change IntKind.i64.wrap (a - ↑l.length - ↑(szL (l.take i)) - ((l.getD i []).length : Int)) = _
      rw [wrap64 (by omega) (by omega)]; omega
    · rw [wrap64 (by omega) (by omega)]; rfl
  · rename_i h1
    rw [length_strs] at h1
    rw [List.take_of_length_le (by omega)] at hp2 ⊢
    rw [left, if_neg (by unfold szT; omega)]; unfold szT; omega
end Go.Proofs.YtfnejdkkhpjhmaaGreatDoor
namespace Go.Proofs.YtfnejdkkhpjhmaaGreatDoor
open Abs
def digs : Nat → Nat → Str → Str
  | 0, _, a => a
  | n + 1, k, a => if k = 0 then a else digs n (k / 10) (UInt8.ofNat (48 + k % 10) :: a)
@[irreducible] def markF (k : Nat) : Str := if k = 0 then [109, 48] else 109 :: digs k k []
def markL (n k : Nat) : List Str := (List.range n).map fun i => markF (k + i)
@[simp] theorem length_markL (n k : Nat) : (markL n k).length = n := by simp [markL]
end Go.Proofs.YtfnejdkkhpjhmaaGreatDoor
namespace Go.Proofs.YtfnejdkkhpjhmaaGreatDoor
open Abs
def tStrs : Ty (List Str) := Ty.plain 9 Ty.str (fun _ => rfl) (fun _ => rfl)
abbrev Fct := Str × List Str
def tFct : Ty Fct := Ty.pair Ty.str tStrs
abbrev facts (l : List Fct) : List (List AV) := rows tFct l
theorem szT_eq (l : List Str) : szT l = tStrs.size l := by
  show szT l = l.length + listSize Ty.str l
  unfold szT
  congr 1
  induction l with
  | nil => rfl
  | cons s l ih => simp only [szL, listSize, ih]; rfl
theorem Abs.ACall.mkStrs {C : Con} {lend : Bool} {f : Nat} {vs : List AV} {b : List ABox} {fr : Fr} {k : AV → List ABox → Fr → Prop} (ys : List AV) (l : List Str) (h : C.ret f ys (.list (some 0) (strs l)) [(9, 1, l.length)]) (hv : SeesL Sees0 vs ys)
    (hk : k (.list (some fr.length) (strs l)) b (fr ++ [(9, 1, l.length)])) : ACall C lend f vs b fr k :=
  ACall.mkV tStrs ys l (fun n => .list (some n) (strs l)) (fun _ => rfl) h hv hk
theorem Abs.ACall.mkFct {C : Con} {lend : Bool} {f : Nat} {vs : List AV} {b : List ABox} {fr : Fr} {k : AV → List ABox → Fr → Prop} (ys : List AV) (a : Fct) (h : C.ret f ys (.agg (tFct.tk a 0)) (tFct.fr a)) (hv : SeesL Sees0 vs ys)
    (hk : k (.agg (tFct.tk a fr.length)) b (fr ++ tFct.fr a)) : ACall C lend f vs b fr k := ACall.mkA tFct ys a h hv hk
theorem tFct_size (f : Fct) : tFct.size f = f.1.length + tStrs.size f.2 := rfl
theorem tStrs_size (l : List Str) : tStrs.size l = l.length + listSize Ty.str l := rfl
theorem toFact.ret (f : Fct) (h : tFct.size f ≤ 1048576) : toFact.Ret [.agg (oldL (tFct.q f))] (.agg (tFct.tk f 0)) (tFct.fr f) := by
  refine toFact.of rfl ?_
  rw [tFct_size, tStrs_size] at h
  repeat' first
    | (conv => whnf
       first | refine Need.mk ⟨rfl, Nat.le_of_ble_eq_true rfl⟩ ?_ | refine Need.mk (Nat.le_of_ble_eq_true rfl) ?_ | refine FinAgg.keep ?_ | refine Final.mk rfl rfl | refine ACall.mkStrs _ _ (toStringS.ret _ ?_) (by repeat' first | exact SeesL.nil | refine SeesL.cons ?_ ?_ | exact SeesB.of0 (Sees0.val _) | exact SeesB.of0 (Sees0.str _) | exact SeesB.of0 (Sees0.olds _ _) | exact SeesB.of0 (Sees0.old _) | exact SeesB.of0 (Sees0.oldagg _) | exact SeesB.of0 Sees0.nil | exact Sees0.val _ | exact Sees0.str _ | exact Sees0.olds _ _ | exact Sees0.old _ | exact Sees0.oldagg _ | exact Sees0.nil | exact SeesB.of0 (Sees0.any _) | assumption | exact sees_gv _ _ _ (by assumption) (by first | assumption | exact BoxIn.last _ _ | exact BoxIn.more (BoxIn.last _ _) _) | refine SeesB.agg ?_ | refine Sees0.agg ?_ | exact SeesB.of0 (Sees0.clo SeesL.nil SeesL.nil) | exact Sees0.clo SeesL.nil SeesL.nil | exact SeesB.of0 (Sees0.list rfl) | exact Sees0.list rfl) ?_)
  omega
theorem szFact.ret (f : Fct) (a : Int) (h0 : 0 ≤ a) (ha : a ≤ 1048576) (hb : tFct.bd f) :
    szFact.Ret [.agg (oldL (tFct.q f)), .val (.int .i64 a)] (.val (.int .i64 (left a (tFct.size f)))) [] := by
  refine szFact.of rfl ?_
  obtain ⟨h1, h2, hs⟩ := hb
  have h1 : f.1.length ≤ 9223372036854775807 := h1
  have hw : IntKind.i64.wrap (a - (f.1.length : Int)) = a - f.1.length := wrap64 (by omega) (by omega)
  have hz := tFct_size f
  have hz2 := szT_eq f.2
  repeat' first
    | (conv => whnf
       first | refine Need.mk rfl ?_ | refine Fork.dec (fun _ => ?_) (fun _ => ?_) | refine FinVal.keep ?_ | refine Final.mk ?_ rfl | refine ACall.scalA _ _ (szStringS.ret _ _ ?_ ?_ ?_ ?_) rfl ?_)
    | refine AV.int_congr ?_
  all_goals rw [hw] at *
  all_goals first
    | assumption
    | omega
    | (unfold left at *; rw [hz, hz2] at *; split at * <;> (try split at *) <;> (try split) <;> omega)
end Go.Proofs.YtfnejdkkhpjhmaaGreatDoor
namespace Go.Proofs.YtfnejdkkhpjhmaaGreatDoor
open Abs
def tFcts : Ty (List Fct) := Ty.list 135 tFct
theorem tFcts_size (l : List Fct) : tFcts.size l = l.length + listSize tFct l := rfl
theorem facts_get {l : List Fct} {i : Nat} (hi : i < l.length) : l[i]? = some (l.getD i default) := by simp [List.getD, hi]
theorem tFcts_frs_succ {l : List Fct} {i : Nat} (hi : i < l.length) : frs tFct (l.take (i + 1)) = frs tFct (l.take i) ++ tFct.fr (l.getD i default) := by
  rw [take_succ' default hi, frs_append]; simp [frs]
theorem toFactS.ret (l : List Fct) (h : tFcts.size l ≤ 1048576) : toFactS.Ret [.list none (facts l)] (.list (some (0 + (frs tFct l).length)) (tks tFct l 0)) (tFcts.fr l) := by
  refine toFactS.of rfl ?_
  rw [tFcts_size] at h
  repeat' first
    | (conv => whnf
       first | refine Need.fin ?_)
  refine ALoop.mk Nat (fun i => ⟨[(0, .list none (facts l)), (3, .bsl 0 l.length), (4, .val (.int .i64 i))], [.cells (.row 135 2) (part [.str [], .val (.slice none 0 0)] (tks tFct l 0) i)], frs tFct (l.take i)⟩) (fun i => i ≤ l.length) (fun i => l.length - i) ⟨0, Nat.zero_le _, ?_⟩ (fun i hi => ?_)
  · repeat' first
      | exact trivial | refine Weak.mk ?_ ?_ ?_ ?_ (Or.inl (Nat.le_of_ble_eq_true rfl)) | refine And.intro ?_ ?_ | with_reducible rfl | exact Nat.le_of_ble_eq_true rfl | refine AV.int_congr ?_ | refine AV.list_congr ?_ | refine AV.bsl_congr ?_ ?_ | (apply rfl)
    · simp
    · simp only [List.nil_append, List.length_cons, List.length_nil, List.take_succ_cons, List.take_zero]
      rw [part_made (xs := tks tFct l 0) (sz := 2) rfl (by decide) (by simp [length_tks])]; rfl
  repeat' first
    | (conv => whnf
       first | refine Need.mk rfl ?_ | refine Need.mk (Nat.le_of_ble_eq_true rfl) ?_ | refine Need.fin ?_ | refine Need.mk ?_ ?_ | refine Ix.mapF (fun _ => rfl) ?_ | refine Fork.dec (fun _ => ?_) (fun _ => ?_) | refine Round.mk ?_ | refine ACall.mkFct _ _ (toFact.ret _ ?_) (by repeat' first | exact SeesL.nil | refine SeesL.cons ?_ ?_ | exact SeesB.of0 (Sees0.val _) | exact SeesB.of0 (Sees0.str _) | exact SeesB.of0 (Sees0.olds _ _) | exact SeesB.of0 (Sees0.old _) | exact SeesB.of0 (Sees0.oldagg _) | exact SeesB.of0 Sees0.nil | exact Sees0.val _ | exact Sees0.str _ | exact Sees0.olds _ _ | exact Sees0.old _ | exact Sees0.oldagg _ | exact Sees0.nil | exact SeesB.of0 (Sees0.any _) | assumption | exact sees_gv _ _ _ (by assumption) (by first | assumption | exact BoxIn.last _ _ | exact BoxIn.more (BoxIn.last _ _) _) | refine SeesB.agg ?_ | refine Sees0.agg ?_ | exact SeesB.of0 (Sees0.clo SeesL.nil SeesL.nil) | exact Sees0.clo SeesL.nil SeesL.nil | exact SeesB.of0 (Sees0.list rfl) | exact Sees0.list rfl) ?_)
  · rename_i h1
    rw [length_rows] at h1
    have := listSize_mem tFct (List.mem_of_getElem? (facts_get (l := l) (i := i) (by omega)))
    rw [Int.toNat_natCast]; omega
  · rename_i h1
    rw [length_rows] at h1
    rw [part_len (sz := 2) rfl (tks_sz tFct l 0) (by rw [length_tks]; exact hi), Int.toNat_natCast, length_tks]
    exact ⟨rfl, by omega⟩
  · rename_i h1
    rw [length_rows] at h1
    refine ⟨i + 1, by omega, ?_, by omega⟩
    repeat' first
      | exact trivial | refine Weak.mk ?_ ?_ ?_ ?_ (Or.inl (Nat.le_of_ble_eq_true rfl)) | refine And.intro ?_ ?_ | with_reducible rfl | exact Nat.le_of_ble_eq_true rfl | refine AV.int_congr ?_ | refine AV.list_congr ?_ | refine AV.bsl_congr ?_ ?_
    · rw [wrap64 (by omega) (by omega)]; rfl
    · have := part_set (z := [.str [], .val (.slice none 0 0)]) (sz := 2) rfl (tks_sz tFct l 0) (tks_get tFct 0 (facts_get (l := l) (i := i) (by omega)))
      rw [Nat.zero_add] at this
      simp only [List.set_cons_zero, List.take_succ_cons, List.take_zero, List.length_cons, List.length_nil, Int.toNat_natCast, this]
    · rw [tFcts_frs_succ (by omega), Int.toNat_natCast]
  · rename_i h1
    rw [length_rows] at h1
    conv => whnf
    have : i = l.length := by omega
    subst this
    have hall := part_all [.str [], .val (.slice none 0 0)] (tks tFct l 0)
    rw [length_tks] at hall
    refine FreezeD.flat (Freeze.mk (tks tFct l 0) _ 135 2 rfl hall (length_tks _ _ _) (tks_sz tFct l 0) (fun c hc => ?_) ?_)
    · rw [hall] at hc; exact tks_nr tFct l 0 c hc
    · refine Final.mk ?_ ?_
      · rw [List.take_length, Nat.zero_add]
      · rw [List.take_length]; rfl
theorem szFactS.ret (l : List Fct) (a : Int) (h0 : 0 ≤ a) (ha : a ≤ 1048576) (hb : tFcts.bd l) :
    szFactS.Ret [.list none (facts l), .val (.int .i64 a)] (.val (.int .i64 (left a (tFcts.size l)))) [] := by
  refine szFactS.of rfl ?_
  obtain ⟨hl, hb⟩ := hb
  have hw : IntKind.i64.wrap (a - ((facts l).length : Int)) = a - l.length := by rw [length_rows]; exact wrap64 (by omega) (by omega)
  have hz := tFcts_size l
  repeat' first
    | (conv => whnf
       first | refine Need.mk rfl ?_ | refine Fork.dec (fun _ => ?_) (fun _ => ?_) | refine FinVal.keep ?_ | refine Final.mk ?_ rfl)
    | refine AV.int_congr ?_
  · rename_i h
    rw [hw] at h
    rw [left, if_pos (by omega)]
  rename_i h
  rw [hw] at h
  skip
  refine ALoop.mk Nat (fun i => ⟨[(0, .list none (facts l)), (1, .val (.int .i64 (a - l.length - listSize tFct (l.take i)))), (5, .val (.int .i64 i))], [], []⟩) (fun i => i ≤ l.length ∧ (0 : Int) ≤ a - l.length - listSize tFct (l.take i)) (fun i => l.length - i) ⟨0, ⟨Nat.zero_le _, by simp [listSize]; omega⟩, ?_⟩ (fun i hi => ?_)
  · repeat' first
      | exact trivial | refine Weak.mk ?_ ?_ ?_ ?_ (Or.inl (Nat.le_of_ble_eq_true rfl)) | refine And.intro ?_ ?_ | with_reducible rfl | exact Nat.le_of_ble_eq_true rfl | refine AV.int_congr ?_ | refine AV.list_congr ?_ | (apply rfl)
    rw [hw]; simp [listSize]
  obtain ⟨hp1, hp2⟩ := hi
  have hle := listSize_take_le tFct l (i + 1)
  have hbi : i < l.length → tFct.bd (l.getD i default) := fun h => hb _ (List.mem_of_getElem? (facts_get h))
  have hsz : i < l.length → listSize tFct (l.take (i + 1)) = listSize tFct (l.take i) + tFct.size (l.getD i default) := fun h => listSize_take_succ tFct (facts_get h)
  repeat' first
    | (conv => whnf
       first | refine Need.mk rfl ?_ | refine Need.mk (Nat.le_of_ble_eq_true rfl) ?_ | refine Ix.mapF (fun _ => rfl) ?_ | refine Fork.dec (fun _ => ?_) (fun _ => ?_) | refine Round.mk ?_ | refine FinVal.keep ?_ | refine Final.mk ?_ rfl | refine ACall.scalA _ _ (szFact.ret _ _ ?_ ?_ ?_) rfl ?_)
    | refine AV.int_congr ?_
  · exact hp2
  · omega
  · rename_i h1
    rw [length_rows] at h1
    rw [Int.toNat_natCast]; exact hbi (by omega)
  · rename_i h1 h2
    rw [length_rows] at h1
    rw [Int.toNat_natCast] at h2
    have := hsz (by omega)
    unfold left at h2 ⊢
    split at h2
    · rw [if_pos (by omega)]
    · omega
  · rename_i h1 h2
    rw [length_rows] at h1
    rw [Int.toNat_natCast] at h2
    have := hsz (by omega)
    have e : left (a - ↑l.length - ↑(listSize tFct (l.take i))) (tFct.size (l.getD i default)) = a - ↑l.length - ↑(listSize tFct (l.take (i + 1))) := by
      unfold left at h2 ⊢
      split at h2
      · omega
      · rw [if_neg ‹_›]; omega
    refine ⟨i + 1, ⟨by omega, ?_⟩, ?_, by omega⟩
    · rw [← e]; omega
    · repeat' first
        | exact trivial | refine Weak.mk ?_ ?_ ?_ ?_ (Or.inl (Nat.le_of_ble_eq_true rfl)) | refine And.intro ?_ ?_ | with_reducible rfl | exact Nat.le_of_ble_eq_true rfl | refine AV.int_congr ?_ | refine AV.list_congr ?_ | (apply rfl)
      · rw [Int.toNat_natCast]; exact e
      · rw [wrap64 (by omega) (by omega)]; rfl
  · rename_i h1
    rw [length_rows] at h1
    rw [List.take_of_length_le (by omega)] at hp2 ⊢
    rw [left, if_neg (by omega)]; omega
end Go.Proofs.YtfnejdkkhpjhmaaGreatDoor
namespace Go.Proofs.YtfnejdkkhpjhmaaGreatDoor
namespace Abs
mutual
/-- how many cells are marked: of a cell of an element, of its cells, of a slice's elements -/
def c1 : Tr → Nat
  | .v _ => 1
  | .s _ => 1
  | .l _ _ xs => cnLL xs
  | .a _ => 0
  | .p _ => 0
def cnC : List Tr → Nat
  | [] => 0
  | x :: xs => c1 x + cnC xs
def cnLL : List (List Tr) → Nat
  | [] => 0
  | x :: xs => cnC x + cnLL xs
end
mutual
/-- of a value: the cells in its slices -/
def cn : Tr → Nat
  | .l _ _ xs => cnLL xs
  | .a fs => cnA fs
  | .p fs => cnA fs
  | .v _ => 0
  | .s _ => 0
def cnA : List Tr → Nat
  | [] => 0
  | x :: xs => cn x + cnA xs
end
mutual
def m1 : Tr → Nat → Tr
  | .v _, k => .v (.int .i64 k)
  | .s _, k => .s (markF k)
  | .l t sz xs, k => .l t sz (mkLL xs k)
  | .a fs, _ => .a fs
  | .p fs, _ => .p fs
def mkC : List Tr → Nat → List Tr
  | [], _ => []
  | x :: xs, k => m1 x k :: mkC xs (k + c1 x)
def mkLL : List (List Tr) → Nat → List (List Tr)
  | [], _ => []
  | x :: xs, k => mkC x k :: mkLL xs (k + cnC x)
end
mutual
def mk : Tr → Nat → Tr
  | .l t sz xs, k => .l t sz (mkLL xs k)
  | .a fs, k => .a (mkA fs k)
  | .p fs, k => .p (mkA fs k)
  | .v x, _ => .v x
  | .s x, _ => .s x
def mkA : List Tr → Nat → List Tr
  | [], _ => []
  | x :: xs, k => mk x k :: mkA xs (k + cn x)
end
theorem cnC_append : ∀ xs ys, cnC (xs ++ ys) = cnC xs + cnC ys
  | [], ys => by simp [cnC]
  | x :: xs, ys => by rw [List.cons_append, cnC, cnC_append xs, cnC, Nat.add_assoc]
theorem Sees0.cut {xs : List AV} {ys : List Tr} (h : xs = oldL ys) : Sees0 (.agg xs) (.agg (oldL ys)) := by subst h; exact Sees0.oldagg ys
theorem cons_congr {α : Type} {a b : α} {l m : List α} (h : a = b) (h' : l = m) : a :: l = b :: m := by rw [h, h']
theorem tok_congr {a b : Nat} {l m : List (List AV)} (h : a = b) (h' : l = m) : AV.list (some a) l = AV.list (some b) m := by rw [h, h']
def CnB {α : Type} (T : Ty α) (w : Nat) : Prop := ∀ a, cnC (T.q a) ≤ w * (1 + T.size a)
theorem CnB.str : CnB Ty.str 1 := fun a => by show 1 + 0 ≤ 1 * (1 + _); omega
theorem CnB.int : CnB Ty.int 1 := fun a => by show 1 + 0 ≤ 1 * (1 + _); omega
theorem CnB.bool : CnB Ty.bool 1 := fun a => by show 1 + 0 ≤ 1 * (1 + _); omega
theorem CnB.pair {α β : Type} {T : Ty α} {U : Ty β} {w v : Nat} (h : CnB T w) (g : CnB U v) : CnB (Ty.pair T U) (w + v) := fun a => by
  show cnC (T.q a.1 ++ U.q a.2) ≤ (w + v) * (1 + (T.size a.1 + U.size a.2))
  rw [cnC_append, Nat.add_mul]
  exact Nat.add_le_add (Nat.le_trans (h a.1) (Nat.mul_le_mul_left _ (by omega))) (Nat.le_trans (g a.2) (Nat.mul_le_mul_left _ (by omega)))
theorem CnB.rows {α : Type} {T : Ty α} {w : Nat} (h : CnB T w) : ∀ l : List α, cnLL (l.map T.q) ≤ w * (l.length + listSize T l)
  | [] => Nat.zero_le _
  | a :: l => by
    have h1 := h.rows l
    have h2 := h a
    rw [List.map_cons, cnLL, List.length_cons, listSize]
    refine Nat.le_trans (Nat.add_le_add h2 h1) ?_
    rw [← Nat.mul_add]
    exact Nat.mul_le_mul_left _ (by omega)
theorem CnB.cellsL {α : Type} {T : Ty α} {w : Nat} (h : CnB T w) (t sz : Nat) (l : List α) : cnC [.l t sz (l.map T.q)] ≤ w * (1 + (l.length + listSize T l)) := by
  show cnLL (l.map T.q) + 0 ≤ _
  exact Nat.le_trans (h.rows l) (Nat.mul_le_mul_left _ (by omega))
theorem CnB.list {α : Type} {T : Ty α} {w : Nat} (h : CnB T w) (t : Nat) : CnB (Ty.list t T) w := fun l => h.cellsL t T.sz l
theorem CnB.plain {α : Type} {T : Ty α} {w : Nat} (h : CnB T w) (t : Nat) (h1 h2) : CnB (Ty.plain t T h1 h2) w := fun l => h.cellsL t T.sz l
theorem CnB.l {α : Type} {T : Ty α} {w : Nat} (h : CnB T w) (t sz : Nat) (l : List α) : cn (.l t sz (l.map T.q)) ≤ w * (l.length + listSize T l) := h.rows l
/-- the elements of a slice without slices of their own -/
theorem rowsP_tks {α : Type} (T : Ty α) (h : ∀ a, T.fr a = []) (e : ∀ a, T.tk a 0 = oldL (T.q a)) : ∀ l : List α, tks T l 0 = rows T l
  | [] => rfl
  | a :: l => by
    rw [tks, h, e]
    show _ :: tks T l (0 + 0) = _
    rw [Nat.add_zero, rowsP_tks T h e l]; rfl
end Abs
end Go.Proofs.YtfnejdkkhpjhmaaGreatDoor
namespace Go.Proofs.YtfnejdkkhpjhmaaGreatDoor
open Abs
theorem Abs.ACall.mk_StringS {C : Con} {lend : Bool} {f : Nat} {vs : List AV} {b : List ABox} {fr : Fr} {k : AV → List ABox → Fr → Prop} (ys : List AV) (l : List Str) (h : C.ret f ys (.list (some 0) (strs l)) [(9, 1, l.length)]) (hv : SeesL Sees0 vs ys)
    (hk : k (.list (some fr.length) (strs l)) b (fr ++ [(9, 1, l.length)])) : ACall C lend f vs b fr k := ACall.mkStrs ys l h hv hk
theorem eqStringS.big (l m : List Str) (h : tStrs.size l ≤ 1099511627775) : eqStringS.Ret [.list none (strs l), .list none (strs m)] (.val (.bool (decide (l = m)))) [] := eqStringS.ret l m (by rw [tStrs_size] at h; omega)
end Go.Proofs.YtfnejdkkhpjhmaaGreatDoor
namespace Go.Proofs.YtfnejdkkhpjhmaaGreatDoor
open Abs
abbrev VPattern := Str × List Str
instance : DecidableEq VPattern := instDecidableEqProd
def tPattern : Ty VPattern := Ty.pair Ty.str tStrs
theorem tPattern_size (a : VPattern) : tPattern.size a = a.1.length + tStrs.size a.2 := rfl
theorem Abs.ACall.mk_Pattern {C : Con} {lend : Bool} {f : Nat} {vs : List AV} {b : List ABox} {fr : Fr} {k : AV → List ABox → Fr → Prop} (ys : List AV) (a : VPattern) (h : C.ret f ys (.agg (tPattern.tk a 0)) (tPattern.fr a)) (hv : SeesL Sees0 vs ys)
    (hk : k (.agg (tPattern.tk a fr.length)) b (fr ++ tPattern.fr a)) : ACall C lend f vs b fr k := ACall.mkA tPattern ys a h hv hk
theorem toPattern.ret (a : VPattern) (h : tPattern.size a ≤ 1048576) : toPattern.Ret [.agg (oldL (tPattern.q a))] (.agg (tPattern.tk a 0)) (tPattern.fr a) := by
  refine toPattern.of rfl ?_
  rw [tPattern_size] at h
  have hf1 := tStrs_size a.2
  repeat' first
    | (conv => whnf
       first | refine Need.mk ⟨rfl, Nat.le_of_ble_eq_true rfl⟩ ?_ | refine Need.mk (Nat.le_of_ble_eq_true rfl) ?_ | refine FinAgg.keep ?_ | refine Final.mk rfl rfl | refine ACall.mk_StringS _ _ (toStringS.ret _ ?_) (by repeat' first | exact SeesL.nil | refine SeesL.cons ?_ ?_ | exact SeesB.of0 (Sees0.val _) | exact SeesB.of0 (Sees0.str _) | exact SeesB.of0 (Sees0.olds _ _) | exact SeesB.of0 (Sees0.old _) | exact SeesB.of0 (Sees0.oldagg _) | exact SeesB.of0 Sees0.nil | exact Sees0.val _ | exact Sees0.str _ | exact Sees0.olds _ _ | exact Sees0.old _ | exact Sees0.oldagg _ | exact Sees0.nil | exact SeesB.of0 (Sees0.any _) | assumption | exact sees_gv _ _ _ (by assumption) (by first | assumption | exact BoxIn.last _ _ | exact BoxIn.more (BoxIn.last _ _) _) | refine SeesB.agg ?_ | refine Sees0.agg ?_ | exact SeesB.of0 (Sees0.clo SeesL.nil SeesL.nil) | exact Sees0.clo SeesL.nil SeesL.nil | exact SeesB.of0 (Sees0.list rfl) | exact Sees0.list rfl) ?_)
  all_goals first
    | omega
    | (refine congrArg AV.agg ?_
       repeat' first
         | refine cons_congr ?_ ?_
         | refine tok_congr ?_ ?_
         | refine congrArg (tks _ _) ?_
         | rfl
       all_goals (simp [Ty.pair, Ty.str, Ty.int, Ty.bool, Nat.add_assoc, Ty.plain, tStrs]; done))
    | (simp [tPattern, Ty.pair, Ty.str, Ty.int, Ty.bool, List.append_assoc, Nat.add_assoc, Ty.plain, tStrs]; done)
theorem szPattern.ret (f : VPattern) (a : Int) (h0 : 0 ≤ a) (ha : a ≤ 1048576) (hb : tPattern.bd f) :
    szPattern.Ret [.agg (oldL (tPattern.q f)), .val (.int .i64 a)] (.val (.int .i64 (left a (tPattern.size f)))) [] := by
  refine szPattern.of rfl ?_
  have hz := tPattern_size f
  obtain ⟨hb0, hb1⟩ := hb
  have hb0 : f.1.length ≤ 9223372036854775807 := hb0
  obtain ⟨hbl1, hbe1⟩ := hb1
  have hy1 := szT_eq f.2
  by_cases c1 : a < (f.1.length : Int)
  · have e0 : IntKind.i64.wrap (a - (f.1.length : Int)) = a - (f.1.length : Int) := by rw [wrap64 (by omega) (by omega)]
    repeat' first
      | (conv => whnf
         first | refine Need.mk rfl ?_ | refine Fork.decYes (by omega) ?_ | refine FinVal.keep ?_ | refine Final.mk ?_ rfl)
      | refine AV.int_congr ?_
    all_goals first
      | assumption
      | omega
      | exact left_eq (by omega)
  by_cases c2 : a < (f.1.length : Int) + (szT f.2 : Int)
  · have e0 : IntKind.i64.wrap (a - (f.1.length : Int)) = a - (f.1.length : Int) := by rw [wrap64 (by omega) (by omega)]
    have e1 : left (IntKind.i64.wrap (a - (f.1.length : Int))) (szT f.2) = -1 := by rw [e0, left, if_pos (by omega)]
    repeat' first
      | (conv => whnf
         first | refine Need.mk rfl ?_ | refine Fork.decYes (by omega) ?_ | refine Fork.decNo (by omega) ?_ | refine FinVal.keep ?_ | refine Final.mk ?_ rfl | refine ACall.scalA _ _ (szStringS.ret _ _ ?_ ?_ ?_ ?_) rfl ?_)
      | refine AV.int_congr ?_
    all_goals first
      | assumption
      | omega
      | exact left_eq (by omega)
  have e0 : IntKind.i64.wrap (a - (f.1.length : Int)) = a - (f.1.length : Int) := by rw [wrap64 (by omega) (by omega)]
  have e1 : left (IntKind.i64.wrap (a - (f.1.length : Int))) (szT f.2) = a - (f.1.length : Int) - (szT f.2 : Int) := by rw [e0, left, if_neg (by omega)]
  repeat' first
    | (conv => whnf
       first | refine Need.mk rfl ?_ | refine Fork.decNo (by omega) ?_ | refine FinVal.keep ?_ | refine Final.mk ?_ rfl | refine ACall.scalA _ _ (szStringS.ret _ _ ?_ ?_ ?_ ?_) rfl ?_)
    | refine AV.int_congr ?_
  all_goals first
    | assumption
    | omega
    | exact left_eq (by omega)
theorem eqPattern.big (f g : VPattern) (h : tPattern.size f ≤ 1099511627775) : eqPattern.Ret [.agg (oldL (tPattern.q f)), .agg (oldL (tPattern.q g))] (.val (.bool (decide (f = g)))) [] := by
  refine eqPattern.of rfl ?_
  have hz := tPattern_size f
  repeat' first
    | (conv => whnf
       first | refine Fork.sne (fun _ => ?_) (fun _ => ?_) | refine Fork.neg (fun _ => ?_) (fun _ => ?_) | refine FinVal.keep ?_ | refine Final.mk ?_ rfl | refine ACall.scalA _ _ (eqStringS.big _ _ ?_) rfl ?_)
    | refine AV.bool_congr ?_
  all_goals first
    | omega
    | (simp only [tStrs_size, tInts_size] at *; omega)
    | (obtain ⟨x0, x1⟩ := f; obtain ⟨y0, y1⟩ := g; simp_all)
end Go.Proofs.YtfnejdkkhpjhmaaGreatDoor
namespace Go.Proofs.YtfnejdkkhpjhmaaGreatDoor
open Abs
abbrev VCond := Int × VPattern × Str × Str
instance : DecidableEq VCond := instDecidableEqProd
def tCond : Ty VCond := Ty.pair Ty.int (Ty.pair tPattern (Ty.pair Ty.str Ty.str))
theorem tCond_size (a : VCond) : tCond.size a = 0 + (tPattern.size a.2.1 + (a.2.2.1.length + a.2.2.2.length)) := rfl
def tConds : Ty (List VCond) := Ty.list 70 tCond
theorem tConds_sz (l : List VCond) : tConds.size l = l.length + listSize tCond l := rfl
theorem tCond_get {l : List VCond} {i : Nat} (hi : i < l.length) : l[i]? = some (l.getD i default) := by simp [List.getD, hi]
theorem Abs.ACall.mk_Cond {C : Con} {lend : Bool} {f : Nat} {vs : List AV} {b : List ABox} {fr : Fr} {k : AV → List ABox → Fr → Prop} (ys : List AV) (a : VCond) (h : C.ret f ys (.agg (tCond.tk a 0)) (tCond.fr a)) (hv : SeesL Sees0 vs ys)
    (hk : k (.agg (tCond.tk a fr.length)) b (fr ++ tCond.fr a)) : ACall C lend f vs b fr k := ACall.mkA tCond ys a h hv hk
theorem Abs.ACall.mk_CondS {C : Con} {lend : Bool} {f : Nat} {vs : List AV} {b : List ABox} {fr : Fr} {k : AV → List ABox → Fr → Prop} (ys : List AV) (l : List VCond) (h : C.ret f ys (.list (some (0 + (frs tCond l).length)) (tks tCond l 0)) (tConds.fr l)) (hv : SeesL Sees0 vs ys)
    (hk : k (.list (some (fr.length + (frs tCond l).length)) (tks tCond l fr.length)) b (fr ++ tConds.fr l)) : ACall C lend f vs b fr k :=
  ACall.mkV tConds ys l (fun n => .list (some (n + (frs tCond l).length)) (tks tCond l n)) (fun _ => rfl) h hv hk
theorem toCond.ret (a : VCond) (h : tCond.size a ≤ 1048576) : toCond.Ret [.agg (oldL (tCond.q a))] (.agg (tCond.tk a 0)) (tCond.fr a) := by
  refine toCond.of rfl ?_
  rw [tCond_size] at h
  repeat' first
    | (conv => whnf
       first | refine Need.mk ⟨rfl, Nat.le_of_ble_eq_true rfl⟩ ?_ | refine Need.mk (Nat.le_of_ble_eq_true rfl) ?_ | refine FinAgg.keep ?_ | refine Final.mk rfl rfl | refine ACall.mk_Pattern _ _ (toPattern.ret _ ?_) (by repeat' first | exact SeesL.nil | refine SeesL.cons ?_ ?_ | exact SeesB.of0 (Sees0.val _) | exact SeesB.of0 (Sees0.str _) | exact SeesB.of0 (Sees0.olds _ _) | exact SeesB.of0 (Sees0.old _) | exact SeesB.of0 (Sees0.oldagg _) | exact SeesB.of0 Sees0.nil | exact Sees0.val _ | exact Sees0.str _ | exact Sees0.olds _ _ | exact Sees0.old _ | exact Sees0.oldagg _ | exact Sees0.nil | exact SeesB.of0 (Sees0.any _) | assumption | exact sees_gv _ _ _ (by assumption) (by first | assumption | exact BoxIn.last _ _ | exact BoxIn.more (BoxIn.last _ _) _) | refine SeesB.agg ?_ | refine Sees0.agg ?_ | exact SeesB.of0 (Sees0.clo SeesL.nil SeesL.nil) | exact Sees0.clo SeesL.nil SeesL.nil | exact SeesB.of0 (Sees0.list rfl) | exact Sees0.list rfl) ?_)
  all_goals first
    | omega
    | (refine congrArg AV.agg ?_
       repeat' first
         | refine cons_congr ?_ ?_
         | refine tok_congr ?_ ?_
         | refine congrArg (tks _ _) ?_
         | rfl
       all_goals (simp [Ty.pair, Ty.str, Ty.int, Ty.bool, Nat.add_assoc]; done))
    | (simp [tCond, Ty.pair, Ty.str, Ty.int, Ty.bool, List.append_assoc, Nat.add_assoc]; done)
theorem szCond.ret (f : VCond) (a : Int) (h0 : 0 ≤ a) (ha : a ≤ 1048576) (hb : tCond.bd f) :
    szCond.Ret [.agg (oldL (tCond.q f)), .val (.int .i64 a)] (.val (.int .i64 (left a (tCond.size f)))) [] := by
  refine szCond.of rfl ?_
  have hz := tCond_size f
  obtain ⟨hb0, hb1, hb2, hb3⟩ := hb
  have hb2 : f.2.2.1.length ≤ 9223372036854775807 := hb2
  have hb3 : f.2.2.2.length ≤ 9223372036854775807 := hb3
  by_cases c1 : a < (tPattern.size f.2.1 : Int)
  · have e0 : left a (tPattern.size f.2.1) = -1 := by rw [left, if_pos (by omega)]
    repeat' first
      | (conv => whnf
         first | refine Need.mk rfl ?_ | refine Need.mk (Nat.le_of_ble_eq_true rfl) ?_ | refine Fork.decYes (by omega) ?_ | refine FinVal.keep ?_ | refine Final.mk ?_ rfl | refine ACall.scalA _ _ (szPattern.ret _ _ ?_ ?_ ?_) rfl ?_)
      | refine AV.int_congr ?_
    all_goals first
      | assumption
      | omega
      | exact left_eq (by omega)
  by_cases c2 : a < (tPattern.size f.2.1 : Int) + (f.2.2.1.length : Int)
  · have e0 : left a (tPattern.size f.2.1) = a - (tPattern.size f.2.1 : Int) := by rw [left, if_neg (by omega)]
    have e1 : IntKind.i64.wrap (left a (tPattern.size f.2.1) - (f.2.2.1.length : Int)) = a - (tPattern.size f.2.1 : Int) - (f.2.2.1.length : Int) := by rw [e0, wrap64 (by omega) (by omega)]
    repeat' first
      | (conv => whnf
         first | refine Need.mk rfl ?_ | refine Need.mk (Nat.le_of_ble_eq_true rfl) ?_ | refine Fork.decYes (by omega) ?_ | refine Fork.decNo (by omega) ?_ | refine FinVal.keep ?_ | refine Final.mk ?_ rfl | refine ACall.scalA _ _ (szPattern.ret _ _ ?_ ?_ ?_) rfl ?_)
      | refine AV.int_congr ?_
    all_goals first
      | assumption
      | omega
      | exact left_eq (by omega)
  by_cases c3 : a < (tPattern.size f.2.1 : Int) + (f.2.2.1.length : Int) + (f.2.2.2.length : Int)
  · have e0 : left a (tPattern.size f.2.1) = a - (tPattern.size f.2.1 : Int) := by rw [left, if_neg (by omega)]
    have e1 : IntKind.i64.wrap (left a (tPattern.size f.2.1) - (f.2.2.1.length : Int)) = a - (tPattern.size f.2.1 : Int) - (f.2.2.1.length : Int) := by rw [e0, wrap64 (by omega) (by omega)]
    have e2 : IntKind.i64.wrap (IntKind.i64.wrap (left a (tPattern.size f.2.1) - (f.2.2.1.length : Int)) - (f.2.2.2.length : Int)) = a - (tPattern.size f.2.1 : Int) - (f.2.2.1.length : Int) - (f.2.2.2.length : Int) := by rw [e1, wrap64 (by omega) (by omega)]
    repeat' first
      | (conv => whnf
         first | refine Need.mk rfl ?_ | refine Need.mk (Nat.le_of_ble_eq_true rfl) ?_ | refine Fork.decYes (by omega) ?_ | refine Fork.decNo (by omega) ?_ | refine FinVal.keep ?_ | refine Final.mk ?_ rfl | refine ACall.scalA _ _ (szPattern.ret _ _ ?_ ?_ ?_) rfl ?_)
      | refine AV.int_congr ?_
    all_goals first
      | assumption
      | omega
      | exact left_eq (by omega)
  have e0 : left a (tPattern.size f.2.1) = a - (tPattern.size f.2.1 : Int) := by rw [left, if_neg (by omega)]
  have e1 : IntKind.i64.wrap (left a (tPattern.size f.2.1) - (f.2.2.1.length : Int)) = a - (tPattern.size f.2.1 : Int) - (f.2.2.1.length : Int) := by rw [e0, wrap64 (by omega) (by omega)]
  have e2 : IntKind.i64.wrap (IntKind.i64.wrap (left a (tPattern.size f.2.1) - (f.2.2.1.length : Int)) - (f.2.2.2.length : Int)) = a - (tPattern.size f.2.1 : Int) - (f.2.2.1.length : Int) - (f.2.2.2.length : Int) := by rw [e1, wrap64 (by omega) (by omega)]
  repeat' first
    | (conv => whnf
       first | refine Need.mk rfl ?_ | refine Need.mk (Nat.le_of_ble_eq_true rfl) ?_ | refine Fork.decNo (by omega) ?_ | refine FinVal.keep ?_ | refine Final.mk ?_ rfl | refine ACall.scalA _ _ (szPattern.ret _ _ ?_ ?_ ?_) rfl ?_)
    | refine AV.int_congr ?_
  all_goals first
    | assumption
    | omega
    | exact left_eq (by omega)
theorem eqCond.big (f g : VCond) (h : tCond.size f ≤ 1099511627775) : eqCond.Ret [.agg (oldL (tCond.q f)), .agg (oldL (tCond.q g))] (.val (.bool (decide (f = g)))) [] := by
  refine eqCond.of rfl ?_
  have hz := tCond_size f
  repeat' first
    | (conv => whnf
       first | refine Need.mk rfl ?_ | refine Need.mk (Nat.le_of_ble_eq_true rfl) ?_ | refine Fork.bne (fun _ => ?_) (fun _ => ?_) | refine Fork.sne (fun _ => ?_) (fun _ => ?_) | refine Fork.neg (fun _ => ?_) (fun _ => ?_) | refine FinVal.keep ?_ | refine Final.mk ?_ rfl | refine ACall.scalA _ _ (eqPattern.big _ _ ?_) rfl ?_)
    | refine AV.bool_congr ?_
  all_goals first
    | omega
    | (simp only [tStrs_size, tInts_size] at *; omega)
    | (obtain ⟨x0, ⟨x10, x11⟩, x2, x3⟩ := f; obtain ⟨y0, ⟨y10, y11⟩, y2, y3⟩ := g; simp_all)
theorem toCondS.ret (l : List VCond) (h : tConds.size l ≤ 1048576) : toCondS.Ret [.list none (rows tCond l)] (.list (some (0 + (frs tCond l).length)) (tks tCond l 0)) (tConds.fr l) := by
  refine toCondS.of rfl ?_
  rw [tConds_sz] at h
  repeat' first
    | (conv => whnf
       first | refine Need.fin ?_)
  refine ALoop.mk Nat (fun i => ⟨[(0, .list none (rows tCond l)), (3, .bsl 0 l.length), (4, .val (.int .i64 i))], [.cells (.row 70 5) (part [.val (.int .i64 0), .str [], .val (.slice none 0 0), .str [], .str []] (tks tCond l 0) i)], frs tCond (l.take i)⟩) (fun i => i ≤ l.length) (fun i => l.length - i) ⟨0, Nat.zero_le _, ?_⟩ (fun i hi => ?_)
  · repeat' first
      | exact trivial | refine Weak.mk ?_ ?_ ?_ ?_ (Or.inl (Nat.le_of_ble_eq_true rfl)) | refine And.intro ?_ ?_ | with_reducible rfl | exact Nat.le_of_ble_eq_true rfl | refine AV.int_congr ?_ | refine AV.list_congr ?_ | refine AV.bsl_congr ?_ ?_ | (apply rfl)
    · simp
    · simp only [List.nil_append, List.length_cons, List.length_nil, List.take_succ_cons, List.take_zero]
      rw [part_made (xs := tks tCond l 0) (sz := 5) rfl (by decide) (by simp [length_tks])]; rfl
  repeat' first
    | (conv => whnf
       first | refine Need.mk rfl ?_ | refine Need.mk (Nat.le_of_ble_eq_true rfl) ?_ | refine Need.fin ?_ | refine Need.mk ?_ ?_ | refine Ix.mapF (fun _ => rfl) ?_ | refine Fork.dec (fun _ => ?_) (fun _ => ?_) | refine Round.mk ?_ | refine ACall.mk_Cond _ _ (toCond.ret _ ?_) (by repeat' first | exact SeesL.nil | refine SeesL.cons ?_ ?_ | exact SeesB.of0 (Sees0.val _) | exact SeesB.of0 (Sees0.str _) | exact SeesB.of0 (Sees0.olds _ _) | exact SeesB.of0 (Sees0.old _) | exact SeesB.of0 (Sees0.oldagg _) | exact SeesB.of0 Sees0.nil | exact Sees0.val _ | exact Sees0.str _ | exact Sees0.olds _ _ | exact Sees0.old _ | exact Sees0.oldagg _ | exact Sees0.nil | exact SeesB.of0 (Sees0.any _) | assumption | exact sees_gv _ _ _ (by assumption) (by first | assumption | exact BoxIn.last _ _ | exact BoxIn.more (BoxIn.last _ _) _) | refine SeesB.agg ?_ | refine Sees0.agg ?_ | exact SeesB.of0 (Sees0.clo SeesL.nil SeesL.nil) | exact Sees0.clo SeesL.nil SeesL.nil | exact SeesB.of0 (Sees0.list rfl) | exact Sees0.list rfl) ?_)
  · rename_i h1
    rw [length_rows] at h1
    have := listSize_mem tCond (List.mem_of_getElem? (tCond_get (l := l) (i := i) (by omega)))
    rw [Int.toNat_natCast]; omega
  · rename_i h1
    rw [length_rows] at h1
    rw [part_len (sz := 5) rfl (tks_sz tCond l 0) (by rw [length_tks]; exact hi), Int.toNat_natCast, length_tks]
    exact ⟨rfl, by omega⟩
  · rename_i h1
    rw [length_rows] at h1
    refine ⟨i + 1, by omega, ?_, by omega⟩
    repeat' first
      | exact trivial | refine Weak.mk ?_ ?_ ?_ ?_ (Or.inl (Nat.le_of_ble_eq_true rfl)) | refine And.intro ?_ ?_ | with_reducible rfl | exact Nat.le_of_ble_eq_true rfl | refine AV.int_congr ?_ | refine AV.list_congr ?_ | refine AV.bsl_congr ?_ ?_
    · rw [wrap64 (by omega) (by omega)]; rfl
    · have := part_set (z := [.val (.int .i64 0), .str [], .val (.slice none 0 0), .str [], .str []]) (sz := 5) rfl (tks_sz tCond l 0) (tks_get tCond 0 (tCond_get (l := l) (i := i) (by omega)))
      rw [Nat.zero_add] at this
      simp only [List.set_cons_zero, List.take_succ_cons, List.take_zero, List.length_cons, List.length_nil, Int.toNat_natCast, this]
    · show frs tCond (l.take i) ++ tCond.fr (l.getD (i : Int).toNat default) = frs tCond (l.take (i + 1))
      rw [Int.toNat_natCast, take_succ' default (by omega), frs_append]; simp [frs]
  · rename_i h1
    rw [length_rows] at h1
    conv => whnf
    have : i = l.length := by omega
    subst this
    have hall := part_all [.val (.int .i64 0), .str [], .val (.slice none 0 0), .str [], .str []] (tks tCond l 0)
    rw [length_tks] at hall
    refine FreezeD.flat (Freeze.mk (tks tCond l 0) _ 70 5 rfl hall (length_tks _ _ _) (tks_sz tCond l 0) (fun c hc => ?_) ?_)
    · rw [hall] at hc; exact tks_nr tCond l 0 c hc
    · refine Final.mk ?_ ?_
      · rw [List.take_length, Nat.zero_add]
      · rw [List.take_length]; rfl
theorem szCondS.ret (l : List VCond) (a : Int) (h0 : 0 ≤ a) (ha : a ≤ 1048576) (hb : tConds.bd l) :
    szCondS.Ret [.list none (rows tCond l), .val (.int .i64 a)] (.val (.int .i64 (left a (tConds.size l)))) [] := by
  refine szCondS.of rfl ?_
  obtain ⟨hl, hb⟩ := hb
  have hw : IntKind.i64.wrap (a - ((rows tCond l).length : Int)) = a - l.length := by rw [length_rows]; exact wrap64 (by omega) (by omega)
  have hz := tConds_sz l
  repeat' first
    | (conv => whnf
       first | refine Need.mk rfl ?_ | refine Fork.dec (fun _ => ?_) (fun _ => ?_) | refine FinVal.keep ?_ | refine Final.mk ?_ rfl)
    | refine AV.int_congr ?_
  · rename_i h
    rw [hw] at h
    rw [left, if_pos (by omega)]
  rename_i h
  rw [hw] at h
  skip
  refine ALoop.mk Nat (fun i => ⟨[(0, .list none (rows tCond l)), (1, .val (.int .i64 (a - l.length - listSize tCond (l.take i)))), (5, .val (.int .i64 i))], [], []⟩) (fun i => i ≤ l.length ∧ (0 : Int) ≤ a - l.length - listSize tCond (l.take i)) (fun i => l.length - i) ⟨0, ⟨Nat.zero_le _, by simp [listSize]; omega⟩, ?_⟩ (fun i hi => ?_)
  · repeat' first
      | exact trivial | refine Weak.mk ?_ ?_ ?_ ?_ (Or.inl (Nat.le_of_ble_eq_true rfl)) | refine And.intro ?_ ?_ | with_reducible rfl | exact Nat.le_of_ble_eq_true rfl | refine AV.int_congr ?_ | refine AV.list_congr ?_ | (apply rfl)
    rw [hw]; simp [listSize]
  obtain ⟨hp1, hp2⟩ := hi
  have hle := listSize_take_le tCond l (i + 1)
  have hbi : i < l.length → tCond.bd (l.getD i default) := fun h => hb _ (List.mem_of_getElem? (tCond_get h))
  have hsz : i < l.length → listSize tCond (l.take (i + 1)) = listSize tCond (l.take i) + tCond.size (l.getD i default) := fun h => listSize_take_succ tCond (tCond_get h)
  repeat' first
    | (conv => whnf
       first | refine Need.mk rfl ?_ | refine Need.mk (Nat.le_of_ble_eq_true rfl) ?_ | refine Ix.mapF (fun _ => rfl) ?_ | refine Fork.dec (fun _ => ?_) (fun _ => ?_) | refine Round.mk ?_ | refine FinVal.keep ?_ | refine Final.mk ?_ rfl | refine ACall.scalA _ _ (szCond.ret _ _ ?_ ?_ ?_) rfl ?_)
    | refine AV.int_congr ?_
  · exact hp2
  · omega
  · rename_i h1
    rw [length_rows] at h1
    rw [Int.toNat_natCast]; exact hbi (by omega)
  · rename_i h1 h2
    rw [length_rows] at h1
    rw [Int.toNat_natCast] at h2
    have := hsz (by omega)
    unfold left at h2 ⊢
    split at h2
    · rw [if_pos (by omega)]
    · omega
  · rename_i h1 h2
    rw [length_rows] at h1
    rw [Int.toNat_natCast] at h2
    have := hsz (by omega)
    have e : left (a - ↑l.length - ↑(listSize tCond (l.take i))) (tCond.size (l.getD i default)) = a - ↑l.length - ↑(listSize tCond (l.take (i + 1))) := by
      unfold left at h2 ⊢
      split at h2
      · omega
      · rw [if_neg ‹_›]; omega
    refine ⟨i + 1, ⟨by omega, ?_⟩, ?_, by omega⟩
    · rw [← e]; omega
    · repeat' first
        | exact trivial | refine Weak.mk ?_ ?_ ?_ ?_ (Or.inl (Nat.le_of_ble_eq_true rfl)) | refine And.intro ?_ ?_ | with_reducible rfl | exact Nat.le_of_ble_eq_true rfl | refine AV.int_congr ?_ | refine AV.list_congr ?_ | (apply rfl)
      · rw [Int.toNat_natCast]; exact e
      · rw [wrap64 (by omega) (by omega)]; rfl
  · rename_i h1
    rw [length_rows] at h1
    rw [List.take_of_length_le (by omega)] at hp2 ⊢
    rw [left, if_neg (by omega)]; omega
theorem eqCondS.big (l m : List VCond) (h : tConds.size l ≤ 1099511627775) : eqCondS.Ret [.list none (rows tCond l), .list none (rows tCond m)] (.val (.bool (decide (l = m)))) [] := by
  refine eqCondS.of rfl ?_
  rw [tConds_sz] at h
  repeat' first
    | (conv => whnf
       first | refine Need.mk rfl ?_ | refine Fork.bne (fun _ => ?_) (fun _ => ?_) | refine FinVal.keep ?_ | refine Final.mk ?_ rfl)
    | refine AV.bool_congr ?_
  · rename_i h
    rw [length_rows, length_rows] at h
    have h3 : ¬ l = m := fun e => h (by rw [e])
    simp [h3]
  rename_i h
  rw [length_rows, length_rows] at h
  have h : l.length = m.length := by omega
  skip
  refine ALoop.mk Nat (fun i => ⟨[(0, .list none (rows tCond l)), (1, .list none (rows tCond m)), (5, .val (.int .i64 i))], [], []⟩) (fun i => i ≤ l.length ∧ l.take i = m.take i) (fun i => l.length - i) ⟨0, ⟨Nat.zero_le _, rfl⟩, ?_⟩ (fun i hi => ?_)
  · repeat' first
      | exact trivial | refine Weak.mk ?_ ?_ ?_ ?_ (Or.inl (Nat.le_of_ble_eq_true rfl)) | refine And.intro ?_ ?_ | with_reducible rfl | exact Nat.le_of_ble_eq_true rfl | refine AV.int_congr ?_ | refine AV.list_congr ?_ | (apply rfl)
  repeat' first
    | (conv => whnf
       first | refine Need.mk rfl ?_ | refine Need.mk (Nat.le_of_ble_eq_true rfl) ?_ | refine Ix.mapF (fun _ => rfl) ?_ | refine Fork.dec (fun _ => ?_) (fun _ => ?_) | refine Fork.neg (fun _ => ?_) (fun _ => ?_) | refine Round.mk ?_ | refine FinVal.keep ?_ | refine Final.mk ?_ rfl | refine AQCall.mkA _ _ (fun hg => eqCond.big _ _ ?_) rfl ?_)
    | refine AV.bool_congr ?_
  · rename_i h1
    rw [length_rows] at h1
    have := listSize_mem tCond (List.mem_of_getElem? (tCond_get (l := l) (i := i) (by omega)))
    rw [Int.toNat_natCast]; omega
  · rename_i h1 h2
    have h3 : ¬ l = m := fun e => of_decide_eq_false h2 (by rw [e])
    simp [h3]
  · rename_i h1 h2
    rw [length_rows] at h1
    rw [Int.toNat_natCast] at h2
    refine ⟨i + 1, ⟨by omega, ?_⟩, ?_, by omega⟩
    · rw [take_succ' default (by omega), take_succ' (l := m) default (by omega), hi.2, of_decide_eq_true h2]
    · repeat' first
        | exact trivial | refine Weak.mk ?_ ?_ ?_ ?_ (Or.inl (Nat.le_of_ble_eq_true rfl)) | refine And.intro ?_ ?_ | with_reducible rfl | exact Nat.le_of_ble_eq_true rfl | refine AV.int_congr ?_ | refine AV.list_congr ?_ | (apply rfl)
      rw [wrap64 (by omega) (by omega)]; rfl
  · rename_i h1
    rw [length_rows] at h1
    have h2 := hi.2
    rw [List.take_of_length_le (by omega), List.take_of_length_le (by omega)] at h2
    simp [h2]
end Go.Proofs.YtfnejdkkhpjhmaaGreatDoor
namespace Go.Proofs.YtfnejdkkhpjhmaaGreatDoor
open Abs
abbrev VAction := Int × VPattern
instance : DecidableEq VAction := instDecidableEqProd
def tAction : Ty VAction := Ty.pair Ty.int tPattern
theorem tAction_size (a : VAction) : tAction.size a = 0 + tPattern.size a.2 := rfl
def tActions : Ty (List VAction) := Ty.list 141 tAction
theorem tActions_sz (l : List VAction) : tActions.size l = l.length + listSize tAction l := rfl
theorem tAction_get {l : List VAction} {i : Nat} (hi : i < l.length) : l[i]? = some (l.getD i default) := by simp [List.getD, hi]
theorem Abs.ACall.mk_Action {C : Con} {lend : Bool} {f : Nat} {vs : List AV} {b : List ABox} {fr : Fr} {k : AV → List ABox → Fr → Prop} (ys : List AV) (a : VAction) (h : C.ret f ys (.agg (tAction.tk a 0)) (tAction.fr a)) (hv : SeesL Sees0 vs ys)
    (hk : k (.agg (tAction.tk a fr.length)) b (fr ++ tAction.fr a)) : ACall C lend f vs b fr k := ACall.mkA tAction ys a h hv hk
theorem Abs.ACall.mk_ActionS {C : Con} {lend : Bool} {f : Nat} {vs : List AV} {b : List ABox} {fr : Fr} {k : AV → List ABox → Fr → Prop} (ys : List AV) (l : List VAction) (h : C.ret f ys (.list (some (0 + (frs tAction l).length)) (tks tAction l 0)) (tActions.fr l)) (hv : SeesL Sees0 vs ys)
    (hk : k (.list (some (fr.length + (frs tAction l).length)) (tks tAction l fr.length)) b (fr ++ tActions.fr l)) : ACall C lend f vs b fr k :=
  ACall.mkV tActions ys l (fun n => .list (some (n + (frs tAction l).length)) (tks tAction l n)) (fun _ => rfl) h hv hk
theorem toAction.ret (a : VAction) (h : tAction.size a ≤ 1048576) : toAction.Ret [.agg (oldL (tAction.q a))] (.agg (tAction.tk a 0)) (tAction.fr a) := by
  refine toAction.of rfl ?_
  rw [tAction_size] at h
  repeat' first
    | (conv => whnf
       first | refine Need.mk ⟨rfl, Nat.le_of_ble_eq_true rfl⟩ ?_ | refine Need.mk (Nat.le_of_ble_eq_true rfl) ?_ | refine FinAgg.keep ?_ | refine Final.mk rfl rfl | refine ACall.mk_Pattern _ _ (toPattern.ret _ ?_) (by repeat' first | exact SeesL.nil | refine SeesL.cons ?_ ?_ | exact SeesB.of0 (Sees0.val _) | exact SeesB.of0 (Sees0.str _) | exact SeesB.of0 (Sees0.olds _ _) | exact SeesB.of0 (Sees0.old _) | exact SeesB.of0 (Sees0.oldagg _) | exact SeesB.of0 Sees0.nil | exact Sees0.val _ | exact Sees0.str _ | exact Sees0.olds _ _ | exact Sees0.old _ | exact Sees0.oldagg _ | exact Sees0.nil | exact SeesB.of0 (Sees0.any _) | assumption | exact sees_gv _ _ _ (by assumption) (by first | assumption | exact BoxIn.last _ _ | exact BoxIn.more (BoxIn.last _ _) _) | refine SeesB.agg ?_ | refine Sees0.agg ?_ | exact SeesB.of0 (Sees0.clo SeesL.nil SeesL.nil) | exact Sees0.clo SeesL.nil SeesL.nil | exact SeesB.of0 (Sees0.list rfl) | exact Sees0.list rfl) ?_)
  all_goals first
    | omega
    | (refine congrArg AV.agg ?_
       repeat' first
         | refine cons_congr ?_ ?_
         | refine tok_congr ?_ ?_
         | refine congrArg (tks _ _) ?_
         | rfl
       all_goals (simp [Ty.pair, Ty.str, Ty.int, Ty.bool, Nat.add_assoc]; done))
    | (simp [tAction, Ty.pair, Ty.str, Ty.int, Ty.bool, List.append_assoc, Nat.add_assoc]; done)
theorem szAction.ret (f : VAction) (a : Int) (h0 : 0 ≤ a) (ha : a ≤ 1048576) (hb : tAction.bd f) :
    szAction.Ret [.agg (oldL (tAction.q f)), .val (.int .i64 a)] (.val (.int .i64 (left a (tAction.size f)))) [] := by
  refine szAction.of rfl ?_
  have hz := tAction_size f
  obtain ⟨hb0, hb1⟩ := hb
  by_cases c1 : a < (tPattern.size f.2 : Int)
  · have e0 : left a (tPattern.size f.2) = -1 := by rw [left, if_pos (by omega)]
    repeat' first
      | (conv => whnf
         first | refine Need.mk rfl ?_ | refine Need.mk (Nat.le_of_ble_eq_true rfl) ?_ | refine Fork.decYes (by omega) ?_ | refine FinVal.keep ?_ | refine Final.mk ?_ rfl | refine ACall.scalA _ _ (szPattern.ret _ _ ?_ ?_ ?_) rfl ?_)
      | refine AV.int_congr ?_
    all_goals first
      | assumption
      | omega
      | exact left_eq (by omega)
  have e0 : left a (tPattern.size f.2) = a - (tPattern.size f.2 : Int) := by rw [left, if_neg (by omega)]
  repeat' first
    | (conv => whnf
       first | refine Need.mk rfl ?_ | refine Need.mk (Nat.le_of_ble_eq_true rfl) ?_ | refine Fork.decNo (by omega) ?_ | refine FinVal.keep ?_ | refine Final.mk ?_ rfl | refine ACall.scalA _ _ (szPattern.ret _ _ ?_ ?_ ?_) rfl ?_)
    | refine AV.int_congr ?_
  all_goals first
    | assumption
    | omega
    | exact left_eq (by omega)
theorem eqAction.big (f g : VAction) (h : tAction.size f ≤ 1099511627775) : eqAction.Ret [.agg (oldL (tAction.q f)), .agg (oldL (tAction.q g))] (.val (.bool (decide (f = g)))) [] := by
  refine eqAction.of rfl ?_
  have hz := tAction_size f
  repeat' first
    | (conv => whnf
       first | refine Need.mk rfl ?_ | refine Need.mk (Nat.le_of_ble_eq_true rfl) ?_ | refine Fork.bne (fun _ => ?_) (fun _ => ?_) | refine Fork.neg (fun _ => ?_) (fun _ => ?_) | refine FinVal.keep ?_ | refine Final.mk ?_ rfl | refine ACall.scalA _ _ (eqPattern.big _ _ ?_) rfl ?_)
    | refine AV.bool_congr ?_
  all_goals first
    | omega
    | (simp only [tStrs_size, tInts_size] at *; omega)
    | (obtain ⟨x0, ⟨x10, x11⟩⟩ := f; obtain ⟨y0, ⟨y10, y11⟩⟩ := g; simp_all)
theorem toActionS.ret (l : List VAction) (h : tActions.size l ≤ 1048576) : toActionS.Ret [.list none (rows tAction l)] (.list (some (0 + (frs tAction l).length)) (tks tAction l 0)) (tActions.fr l) := by
  refine toActionS.of rfl ?_
  rw [tActions_sz] at h
  repeat' first
    | (conv => whnf
       first | refine Need.fin ?_)
  refine ALoop.mk Nat (fun i => ⟨[(0, .list none (rows tAction l)), (3, .bsl 0 l.length), (4, .val (.int .i64 i))], [.cells (.row 141 3) (part [.val (.int .i64 0), .str [], .val (.slice none 0 0)] (tks tAction l 0) i)], frs tAction (l.take i)⟩) (fun i => i ≤ l.length) (fun i => l.length - i) ⟨0, Nat.zero_le _, ?_⟩ (fun i hi => ?_)
  · repeat' first
      | exact trivial | refine Weak.mk ?_ ?_ ?_ ?_ (Or.inl (Nat.le_of_ble_eq_true rfl)) | refine And.intro ?_ ?_ | with_reducible rfl | exact Nat.le_of_ble_eq_true rfl | refine AV.int_congr ?_ | refine AV.list_congr ?_ | refine AV.bsl_congr ?_ ?_ | (apply rfl)
    · simp
    · simp only [List.nil_append, List.length_cons, List.length_nil, List.take_succ_cons, List.take_zero]
      rw [part_made (xs := tks tAction l 0) (sz := 3) rfl (by decide) (by simp [length_tks])]; rfl
  repeat' first
    | (conv => whnf
       first | refine Need.mk rfl ?_ | refine Need.mk (Nat.le_of_ble_eq_true rfl) ?_ | refine Need.fin ?_ | refine Need.mk ?_ ?_ | refine Ix.mapF (fun _ => rfl) ?_ | refine Fork.dec (fun _ => ?_) (fun _ => ?_) | refine Round.mk ?_ | refine ACall.mk_Action _ _ (toAction.ret _ ?_) (by repeat' first | exact SeesL.nil | refine SeesL.cons ?_ ?_ | exact SeesB.of0 (Sees0.val _) | exact SeesB.of0 (Sees0.str _) | exact SeesB.of0 (Sees0.olds _ _) | exact SeesB.of0 (Sees0.old _) | exact SeesB.of0 (Sees0.oldagg _) | exact SeesB.of0 Sees0.nil | exact Sees0.val _ | exact Sees0.str _ | exact Sees0.olds _ _ | exact Sees0.old _ | exact Sees0.oldagg _ | exact Sees0.nil | exact SeesB.of0 (Sees0.any _) | assumption | exact sees_gv _ _ _ (by assumption) (by first | assumption | exact BoxIn.last _ _ | exact BoxIn.more (BoxIn.last _ _) _) | refine SeesB.agg ?_ | refine Sees0.agg ?_ | exact SeesB.of0 (Sees0.clo SeesL.nil SeesL.nil) | exact Sees0.clo SeesL.nil SeesL.nil | exact SeesB.of0 (Sees0.list rfl) | exact Sees0.list rfl) ?_)
  · rename_i h1
    rw [length_rows] at h1
    have := listSize_mem tAction (List.mem_of_getElem? (tAction_get (l := l) (i := i) (by omega)))
    rw [Int.toNat_natCast]; omega
  · rename_i h1
    rw [length_rows] at h1
    rw [part_len (sz := 3) rfl (tks_sz tAction l 0) (by rw [length_tks]; exact hi), Int.toNat_natCast, length_tks]
    exact ⟨rfl, by omega⟩
  · rename_i h1
    rw [length_rows] at h1
    refine ⟨i + 1, by omega, ?_, by omega⟩
    repeat' first
      | exact trivial | refine Weak.mk ?_ ?_ ?_ ?_ (Or.inl (Nat.le_of_ble_eq_true rfl)) | refine And.intro ?_ ?_ | with_reducible rfl | exact Nat.le_of_ble_eq_true rfl | refine AV.int_congr ?_ | refine AV.list_congr ?_ | refine AV.bsl_congr ?_ ?_
    · rw [wrap64 (by omega) (by omega)]; rfl
    · have := part_set (z := [.val (.int .i64 0), .str [], .val (.slice none 0 0)]) (sz := 3) rfl (tks_sz tAction l 0) (tks_get tAction 0 (tAction_get (l := l) (i := i) (by omega)))
      rw [Nat.zero_add] at this
      simp only [List.set_cons_zero, List.take_succ_cons, List.take_zero, List.length_cons, List.length_nil, Int.toNat_natCast, this]
    · show frs tAction (l.take i) ++ tAction.fr (l.getD (i : Int).toNat default) = frs tAction (l.take (i + 1))
      rw [Int.toNat_natCast, take_succ' default (by omega), frs_append]; simp [frs]
  · rename_i h1
    rw [length_rows] at h1
    conv => whnf
    have : i = l.length := by omega
    subst this
    have hall := part_all [.val (.int .i64 0), .str [], .val (.slice none 0 0)] (tks tAction l 0)
    rw [length_tks] at hall
    refine FreezeD.flat (Freeze.mk (tks tAction l 0) _ 141 3 rfl hall (length_tks _ _ _) (tks_sz tAction l 0) (fun c hc => ?_) ?_)
    · rw [hall] at hc; exact tks_nr tAction l 0 c hc
    · refine Final.mk ?_ ?_
      · rw [List.take_length, Nat.zero_add]
      · rw [List.take_length]; rfl
theorem szActionS.ret (l : List VAction) (a : Int) (h0 : 0 ≤ a) (ha : a ≤ 1048576) (hb : tActions.bd l) :
    szActionS.Ret [.list none (rows tAction l), .val (.int .i64 a)] (.val (.int .i64 (left a (tActions.size l)))) [] := by
  refine szActionS.of rfl ?_
  obtain ⟨hl, hb⟩ := hb
  have hw : IntKind.i64.wrap (a - ((rows tAction l).length : Int)) = a - l.length := by rw [length_rows]; exact wrap64 (by omega) (by omega)
  have hz := tActions_sz l
  repeat' first
    | (conv => whnf
       first | refine Need.mk rfl ?_ | refine Fork.dec (fun _ => ?_) (fun _ => ?_) | refine FinVal.keep ?_ | refine Final.mk ?_ rfl)
    | refine AV.int_congr ?_
  · rename_i h
    rw [hw] at h
    rw [left, if_pos (by omega)]
  rename_i h
  rw [hw] at h
  skip
  refine ALoop.mk Nat (fun i => ⟨[(0, .list none (rows tAction l)), (1, .val (.int .i64 (a - l.length - listSize tAction (l.take i)))), (5, .val (.int .i64 i))], [], []⟩) (fun i => i ≤ l.length ∧ (0 : Int) ≤ a - l.length - listSize tAction (l.take i)) (fun i => l.length - i) ⟨0, ⟨Nat.zero_le _, by simp [listSize]; omega⟩, ?_⟩ (fun i hi => ?_)
  · repeat' first
      | exact trivial | refine Weak.mk ?_ ?_ ?_ ?_ (Or.inl (Nat.le_of_ble_eq_true rfl)) | refine And.intro ?_ ?_ | with_reducible rfl | exact Nat.le_of_ble_eq_true rfl | refine AV.int_congr ?_ | refine AV.list_congr ?_ | (apply rfl)
    rw [hw]; simp [listSize]
  obtain ⟨hp1, hp2⟩ := hi
  have hle := listSize_take_le tAction l (i + 1)
  have hbi : i < l.length → tAction.bd (l.getD i default) := fun h => hb _ (List.mem_of_getElem? (tAction_get h))
  have hsz : i < l.length → listSize tAction (l.take (i + 1)) = listSize tAction (l.take i) + tAction.size (l.getD i default) := fun h => listSize_take_succ tAction (tAction_get h)
  repeat' first
    | (conv => whnf
       first | refine Need.mk rfl ?_ | refine Need.mk (Nat.le_of_ble_eq_true rfl) ?_ | refine Ix.mapF (fun _ => rfl) ?_ | refine Fork.dec (fun _ => ?_) (fun _ => ?_) | refine Round.mk ?_ | refine FinVal.keep ?_ | refine Final.mk ?_ rfl | refine ACall.scalA _ _ (szAction.ret _ _ ?_ ?_ ?_) rfl ?_)
    | refine AV.int_congr ?_
  · exact hp2
  · omega
  · rename_i h1
    rw [length_rows] at h1
    rw [Int.toNat_natCast]; exact hbi (by omega)
  · rename_i h1 h2
    rw [length_rows] at h1
    rw [Int.toNat_natCast] at h2
    have := hsz (by omega)
    unfold left at h2 ⊢
    split at h2
    · rw [if_pos (by omega)]
    · omega
  · rename_i h1 h2
    rw [length_rows] at h1
    rw [Int.toNat_natCast] at h2
    have := hsz (by omega)
    have e : left (a - ↑l.length - ↑(listSize tAction (l.take i))) (tAction.size (l.getD i default)) = a - ↑l.length - ↑(listSize tAction (l.take (i + 1))) := by
      unfold left at h2 ⊢
      split at h2
      · omega
      · rw [if_neg ‹_›]; omega
    refine ⟨i + 1, ⟨by omega, ?_⟩, ?_, by omega⟩
    · rw [← e]; omega
    · repeat' first
        | exact trivial | refine Weak.mk ?_ ?_ ?_ ?_ (Or.inl (Nat.le_of_ble_eq_true rfl)) | refine And.intro ?_ ?_ | with_reducible rfl | exact Nat.le_of_ble_eq_true rfl | refine AV.int_congr ?_ | refine AV.list_congr ?_ | (apply rfl)
      · rw [Int.toNat_natCast]; exact e
      · rw [wrap64 (by omega) (by omega)]; rfl
  · rename_i h1
    rw [length_rows] at h1
    rw [List.take_of_length_le (by omega)] at hp2 ⊢
    rw [left, if_neg (by omega)]; omega
theorem eqActionS.big (l m : List VAction) (h : tActions.size l ≤ 1099511627775) : eqActionS.Ret [.list none (rows tAction l), .list none (rows tAction m)] (.val (.bool (decide (l = m)))) [] := by
  refine eqActionS.of rfl ?_
  rw [tActions_sz] at h
  repeat' first
    | (conv => whnf
       first | refine Need.mk rfl ?_ | refine Fork.bne (fun _ => ?_) (fun _ => ?_) | refine FinVal.keep ?_ | refine Final.mk ?_ rfl)
    | refine AV.bool_congr ?_
  · rename_i h
    rw [length_rows, length_rows] at h
    have h3 : ¬ l = m := fun e => h (by rw [e])
    simp [h3]
  rename_i h
  rw [length_rows, length_rows] at h
  have h : l.length = m.length := by omega
  skip
  refine ALoop.mk Nat (fun i => ⟨[(0, .list none (rows tAction l)), (1, .list none (rows tAction m)), (5, .val (.int .i64 i))], [], []⟩) (fun i => i ≤ l.length ∧ l.take i = m.take i) (fun i => l.length - i) ⟨0, ⟨Nat.zero_le _, rfl⟩, ?_⟩ (fun i hi => ?_)
  · repeat' first
      | exact trivial | refine Weak.mk ?_ ?_ ?_ ?_ (Or.inl (Nat.le_of_ble_eq_true rfl)) | refine And.intro ?_ ?_ | with_reducible rfl | exact Nat.le_of_ble_eq_true rfl | refine AV.int_congr ?_ | refine AV.list_congr ?_ | (apply rfl)
  repeat' first
    | (conv => whnf
       first | refine Need.mk rfl ?_ | refine Need.mk (Nat.le_of_ble_eq_true rfl) ?_ | refine Ix.mapF (fun _ => rfl) ?_ | refine Fork.dec (fun _ => ?_) (fun _ => ?_) | refine Fork.neg (fun _ => ?_) (fun _ => ?_) | refine Round.mk ?_ | refine FinVal.keep ?_ | refine Final.mk ?_ rfl | refine AQCall.mkA _ _ (fun hg => eqAction.big _ _ ?_) rfl ?_)
    | refine AV.bool_congr ?_
  · rename_i h1
    rw [length_rows] at h1
    have := listSize_mem tAction (List.mem_of_getElem? (tAction_get (l := l) (i := i) (by omega)))
    rw [Int.toNat_natCast]; omega
  · rename_i h1 h2
    have h3 : ¬ l = m := fun e => of_decide_eq_false h2 (by rw [e])
    simp [h3]
  · rename_i h1 h2
    rw [length_rows] at h1
    rw [Int.toNat_natCast] at h2
    refine ⟨i + 1, ⟨by omega, ?_⟩, ?_, by omega⟩
    · rw [take_succ' default (by omega), take_succ' (l := m) default (by omega), hi.2, of_decide_eq_true h2]
    · repeat' first
        | exact trivial | refine Weak.mk ?_ ?_ ?_ ?_ (Or.inl (Nat.le_of_ble_eq_true rfl)) | refine And.intro ?_ ?_ | with_reducible rfl | exact Nat.le_of_ble_eq_true rfl | refine AV.int_congr ?_ | refine AV.list_congr ?_ | (apply rfl)
      rw [wrap64 (by omega) (by omega)]; rfl
  · rename_i h1
    rw [length_rows] at h1
    have h2 := hi.2
    rw [List.take_of_length_le (by omega), List.take_of_length_le (by omega)] at h2
    simp [h2]
end Go.Proofs.YtfnejdkkhpjhmaaGreatDoor
namespace Go.Proofs.YtfnejdkkhpjhmaaGreatDoor
open Abs
abbrev VRule := Str × Int × List VCond × List VAction
instance : DecidableEq VRule := instDecidableEqProd
def tRule : Ty VRule := Ty.pair Ty.str (Ty.pair Ty.int (Ty.pair tConds tActions))
theorem tRule_size (a : VRule) : tRule.size a = a.1.length + (0 + (tConds.size a.2.2.1 + tActions.size a.2.2.2)) := rfl
def tRules : Ty (List VRule) := Ty.list 77 tRule
theorem tRules_sz (l : List VRule) : tRules.size l = l.length + listSize tRule l := rfl
theorem tRule_get {l : List VRule} {i : Nat} (hi : i < l.length) : l[i]? = some (l.getD i default) := by simp [List.getD, hi]
theorem Abs.ACall.mk_Rule {C : Con} {lend : Bool} {f : Nat} {vs : List AV} {b : List ABox} {fr : Fr} {k : AV → List ABox → Fr → Prop} (ys : List AV) (a : VRule) (h : C.ret f ys (.agg (tRule.tk a 0)) (tRule.fr a)) (hv : SeesL Sees0 vs ys)
    (hk : k (.agg (tRule.tk a fr.length)) b (fr ++ tRule.fr a)) : ACall C lend f vs b fr k := ACall.mkA tRule ys a h hv hk
theorem Abs.ACall.mk_RuleS {C : Con} {lend : Bool} {f : Nat} {vs : List AV} {b : List ABox} {fr : Fr} {k : AV → List ABox → Fr → Prop} (ys : List AV) (l : List VRule) (h : C.ret f ys (.list (some (0 + (frs tRule l).length)) (tks tRule l 0)) (tRules.fr l)) (hv : SeesL Sees0 vs ys)
    (hk : k (.list (some (fr.length + (frs tRule l).length)) (tks tRule l fr.length)) b (fr ++ tRules.fr l)) : ACall C lend f vs b fr k :=
  ACall.mkV tRules ys l (fun n => .list (some (n + (frs tRule l).length)) (tks tRule l n)) (fun _ => rfl) h hv hk
theorem toRule.ret (a : VRule) (h : tRule.size a ≤ 1048576) : toRule.Ret [.agg (oldL (tRule.q a))] (.agg (tRule.tk a 0)) (tRule.fr a) := by
  refine toRule.of rfl ?_
  rw [tRule_size] at h
  repeat' first
    | (conv => whnf
       first | refine Need.mk ⟨rfl, Nat.le_of_ble_eq_true rfl⟩ ?_ | refine Need.mk (Nat.le_of_ble_eq_true rfl) ?_ | refine FinAgg.keep ?_ | refine Final.mk ?_ rfl | refine ACall.mk_CondS _ _ (toCondS.ret _ ?_) (by repeat' first | exact SeesL.nil | refine SeesL.cons ?_ ?_ | exact SeesB.of0 (Sees0.val _) | exact SeesB.of0 (Sees0.str _) | exact SeesB.of0 (Sees0.olds _ _) | exact SeesB.of0 (Sees0.old _) | exact SeesB.of0 (Sees0.oldagg _) | exact SeesB.of0 Sees0.nil | exact Sees0.val _ | exact Sees0.str _ | exact Sees0.olds _ _ | exact Sees0.old _ | exact Sees0.oldagg _ | exact Sees0.nil | exact SeesB.of0 (Sees0.any _) | assumption | exact sees_gv _ _ _ (by assumption) (by first | assumption | exact BoxIn.last _ _ | exact BoxIn.more (BoxIn.last _ _) _) | refine SeesB.agg ?_ | refine Sees0.agg ?_ | exact SeesB.of0 (Sees0.clo SeesL.nil SeesL.nil) | exact Sees0.clo SeesL.nil SeesL.nil | exact SeesB.of0 (Sees0.list rfl) | exact Sees0.list rfl) ?_ | refine ACall.mk_ActionS _ _ (toActionS.ret _ ?_) (by repeat' first | exact SeesL.nil | refine SeesL.cons ?_ ?_ | exact SeesB.of0 (Sees0.val _) | exact SeesB.of0 (Sees0.str _) | exact SeesB.of0 (Sees0.olds _ _) | exact SeesB.of0 (Sees0.old _) | exact SeesB.of0 (Sees0.oldagg _) | exact SeesB.of0 Sees0.nil | exact Sees0.val _ | exact Sees0.str _ | exact Sees0.olds _ _ | exact Sees0.old _ | exact Sees0.oldagg _ | exact Sees0.nil | exact SeesB.of0 (Sees0.any _) | assumption | exact sees_gv _ _ _ (by assumption) (by first | assumption | exact BoxIn.last _ _ | exact BoxIn.more (BoxIn.last _ _) _) | refine SeesB.agg ?_ | refine Sees0.agg ?_ | exact SeesB.of0 (Sees0.clo SeesL.nil SeesL.nil) | exact Sees0.clo SeesL.nil SeesL.nil | exact SeesB.of0 (Sees0.list rfl) | exact Sees0.list rfl) ?_)
  all_goals first
    | omega
    | (refine congrArg AV.agg ?_
       repeat' first
         | refine cons_congr ?_ ?_
         | refine tok_congr ?_ ?_
         | refine congrArg (tks _ _) ?_
         | rfl
       all_goals (simp [Ty.pair, Ty.str, Ty.int, Ty.bool, Nat.add_assoc]; done))
    | (simp [tRule, Ty.pair, Ty.str, Ty.int, Ty.bool, List.append_assoc, Nat.add_assoc]; done)
theorem szRule.ret (f : VRule) (a : Int) (h0 : 0 ≤ a) (ha : a ≤ 1048576) (hb : tRule.bd f) :
    szRule.Ret [.agg (oldL (tRule.q f)), .val (.int .i64 a)] (.val (.int .i64 (left a (tRule.size f)))) [] := by
  refine szRule.of rfl ?_
  have hz := tRule_size f
  obtain ⟨hb0, hb1, hb2, hb3⟩ := hb
  have hb0 : f.1.length ≤ 9223372036854775807 := hb0
  by_cases c1 : a < (f.1.length : Int)
  · have e0 : IntKind.i64.wrap (a - (f.1.length : Int)) = a - (f.1.length : Int) := by rw [wrap64 (by omega) (by omega)]
    repeat' first
      | (conv => whnf
         first | refine Need.mk rfl ?_ | refine Fork.decYes (by omega) ?_ | refine FinVal.keep ?_ | refine Final.mk ?_ rfl)
      | refine AV.int_congr ?_
    all_goals first
      | assumption
      | omega
      | exact left_eq (by omega)
  by_cases c2 : a < (f.1.length : Int) + (tConds.size f.2.2.1 : Int)
  · have e0 : IntKind.i64.wrap (a - (f.1.length : Int)) = a - (f.1.length : Int) := by rw [wrap64 (by omega) (by omega)]
    have e1 : left (IntKind.i64.wrap (a - (f.1.length : Int))) (tConds.size f.2.2.1) = -1 := by rw [e0, left, if_pos (by omega)]
    repeat' first
      | (conv => whnf
         first | refine Need.mk rfl ?_ | refine Fork.decYes (by omega) ?_ | refine Fork.decNo (by omega) ?_ | refine FinVal.keep ?_ | refine Final.mk ?_ rfl | refine ACall.scalA _ _ (szCondS.ret _ _ ?_ ?_ ?_) rfl ?_)
      | refine AV.int_congr ?_
    all_goals first
      | assumption
      | omega
      | exact left_eq (by omega)
  by_cases c3 : a < (f.1.length : Int) + (tConds.size f.2.2.1 : Int) + (tActions.size f.2.2.2 : Int)
  · have e0 : IntKind.i64.wrap (a - (f.1.length : Int)) = a - (f.1.length : Int) := by rw [wrap64 (by omega) (by omega)]
    have e1 : left (IntKind.i64.wrap (a - (f.1.length : Int))) (tConds.size f.2.2.1) = a - (f.1.length : Int) - (tConds.size f.2.2.1 : Int) := by rw [e0, left, if_neg (by omega)]
    have e2 : left (left (IntKind.i64.wrap (a - (f.1.length : Int))) (tConds.size f.2.2.1)) (tActions.size f.2.2.2) = -1 := by rw [e1, left, if_pos (by omega)]
    repeat' first
      | (conv => whnf
         first | refine Need.mk rfl ?_ | refine Fork.decYes (by omega) ?_ | refine Fork.decNo (by omega) ?_ | refine FinVal.keep ?_ | refine Final.mk ?_ rfl | refine ACall.scalA _ _ (szCondS.ret _ _ ?_ ?_ ?_) rfl ?_ | refine ACall.scalA _ _ (szActionS.ret _ _ ?_ ?_ ?_) rfl ?_)
      | refine AV.int_congr ?_
    all_goals first
      | assumption
      | omega
      | exact left_eq (by omega)
  have e0 : IntKind.i64.wrap (a - (f.1.length : Int)) = a - (f.1.length : Int) := by rw [wrap64 (by omega) (by omega)]
  have e1 : left (IntKind.i64.wrap (a - (f.1.length : Int))) (tConds.size f.2.2.1) = a - (f.1.length : Int) - (tConds.size f.2.2.1 : Int) := by rw [e0, left, if_neg (by omega)]
  have e2 : left (left (IntKind.i64.wrap (a - (f.1.length : Int))) (tConds.size f.2.2.1)) (tActions.size f.2.2.2) = a - (f.1.length : Int) - (tConds.size f.2.2.1 : Int) - (tActions.size f.2.2.2 : Int) := by rw [e1, left, if_neg (by omega)]
  repeat' first
    | (conv => whnf
       first | refine Need.mk rfl ?_ | refine Fork.decNo (by omega) ?_ | refine FinVal.keep ?_ | refine Final.mk ?_ rfl | refine ACall.scalA _ _ (szCondS.ret _ _ ?_ ?_ ?_) rfl ?_ | refine ACall.scalA _ _ (szActionS.ret _ _ ?_ ?_ ?_) rfl ?_)
    | refine AV.int_congr ?_
  all_goals first
    | assumption
    | omega
    | exact left_eq (by omega)
theorem eqRule.big (f g : VRule) (h : tRule.size f ≤ 1099511627775) : eqRule.Ret [.agg (oldL (tRule.q f)), .agg (oldL (tRule.q g))] (.val (.bool (decide (f = g)))) [] := by
  refine eqRule.of rfl ?_
  have hz := tRule_size f
  repeat' first
    | (conv => whnf
       first | refine Need.mk rfl ?_ | refine Fork.bne (fun _ => ?_) (fun _ => ?_) | refine Fork.sne (fun _ => ?_) (fun _ => ?_) | refine Fork.neg (fun _ => ?_) (fun _ => ?_) | refine FinVal.keep ?_ | refine Final.mk ?_ rfl | refine ACall.scalA _ _ (eqCondS.big _ _ ?_) rfl ?_ | refine ACall.scalA _ _ (eqActionS.big _ _ ?_) rfl ?_)
    | refine AV.bool_congr ?_
  all_goals first
    | omega
    | (simp only [tStrs_size, tInts_size] at *; omega)
    | (obtain ⟨x0, x1, x2, x3⟩ := f; obtain ⟨y0, y1, y2, y3⟩ := g; simp_all)
theorem toRuleS.ret (l : List VRule) (h : tRules.size l ≤ 1048576) : toRuleS.Ret [.list none (rows tRule l)] (.list (some (0 + (frs tRule l).length)) (tks tRule l 0)) (tRules.fr l) := by
  refine toRuleS.of rfl ?_
  rw [tRules_sz] at h
  repeat' first
    | (conv => whnf
       first | refine Need.fin ?_)
  refine ALoop.mk Nat (fun i => ⟨[(0, .list none (rows tRule l)), (3, .bsl 0 l.length), (4, .val (.int .i64 i))], [.cells (.row 77 4) (part [.str [], .val (.int .i64 0), .val (.slice none 0 0), .val (.slice none 0 0)] (tks tRule l 0) i)], frs tRule (l.take i)⟩) (fun i => i ≤ l.length) (fun i => l.length - i) ⟨0, Nat.zero_le _, ?_⟩ (fun i hi => ?_)
  · repeat' first
      | exact trivial | refine Weak.mk ?_ ?_ ?_ ?_ (Or.inl (Nat.le_of_ble_eq_true rfl)) | refine And.intro ?_ ?_ | with_reducible rfl | exact Nat.le_of_ble_eq_true rfl | refine AV.int_congr ?_ | refine AV.list_congr ?_ | refine AV.bsl_congr ?_ ?_ | (apply rfl)
    · simp
    · simp only [List.nil_append, List.length_cons, List.length_nil, List.take_succ_cons, List.take_zero]
      rw [part_made (xs := tks tRule l 0) (sz := 4) rfl (by decide) (by simp [length_tks])]; rfl
  repeat' first
    | (conv => whnf
       first | refine Need.mk rfl ?_ | refine Need.mk (Nat.le_of_ble_eq_true rfl) ?_ | refine Need.fin ?_ | refine Need.mk ?_ ?_ | refine Ix.mapF (fun _ => rfl) ?_ | refine Fork.dec (fun _ => ?_) (fun _ => ?_) | refine Round.mk ?_ | refine ACall.mk_Rule _ _ (toRule.ret _ ?_) (by repeat' first | exact SeesL.nil | refine SeesL.cons ?_ ?_ | exact SeesB.of0 (Sees0.val _) | exact SeesB.of0 (Sees0.str _) | exact SeesB.of0 (Sees0.olds _ _) | exact SeesB.of0 (Sees0.old _) | exact SeesB.of0 (Sees0.oldagg _) | exact SeesB.of0 Sees0.nil | exact Sees0.val _ | exact Sees0.str _ | exact Sees0.olds _ _ | exact Sees0.old _ | exact Sees0.oldagg _ | exact Sees0.nil | exact SeesB.of0 (Sees0.any _) | assumption | exact sees_gv _ _ _ (by assumption) (by first | assumption | exact BoxIn.last _ _ | exact BoxIn.more (BoxIn.last _ _) _) | refine SeesB.agg ?_ | refine Sees0.agg ?_ | exact SeesB.of0 (Sees0.clo SeesL.nil SeesL.nil) | exact Sees0.clo SeesL.nil SeesL.nil | exact SeesB.of0 (Sees0.list rfl) | exact Sees0.list rfl) ?_)
  · rename_i h1
    rw [length_rows] at h1
    have := listSize_mem tRule (List.mem_of_getElem? (tRule_get (l := l) (i := i) (by omega)))
    rw [Int.toNat_natCast]; omega
  · rename_i h1
    rw [length_rows] at h1
    rw [part_len (sz := 4) rfl (tks_sz tRule l 0) (by rw [length_tks]; exact hi), Int.toNat_natCast, length_tks]
    exact ⟨rfl, by omega⟩
  · rename_i h1
    rw [length_rows] at h1
    refine ⟨i + 1, by omega, ?_, by omega⟩
    repeat' first
      | exact trivial | refine Weak.mk ?_ ?_ ?_ ?_ (Or.inl (Nat.le_of_ble_eq_true rfl)) | refine And.intro ?_ ?_ | with_reducible rfl | exact Nat.le_of_ble_eq_true rfl | refine AV.int_congr ?_ | refine AV.list_congr ?_ | refine AV.bsl_congr ?_ ?_
    · rw [wrap64 (by omega) (by omega)]; rfl
    · have := part_set (z := [.str [], .val (.int .i64 0), .val (.slice none 0 0), .val (.slice none 0 0)]) (sz := 4) rfl (tks_sz tRule l 0) (tks_get tRule 0 (tRule_get (l := l) (i := i) (by omega)))
      rw [Nat.zero_add] at this
      simp only [List.set_cons_zero, List.take_succ_cons, List.take_zero, List.length_cons, List.length_nil, Int.toNat_natCast, this]
    · show frs tRule (l.take i) ++ tRule.fr (l.getD (i : Int).toNat default) = frs tRule (l.take (i + 1))
      rw [Int.toNat_natCast, take_succ' default (by omega), frs_append]; simp [frs]
  · rename_i h1
    rw [length_rows] at h1
    conv => whnf
    have : i = l.length := by omega
    subst this
    have hall := part_all [.str [], .val (.int .i64 0), .val (.slice none 0 0), .val (.slice none 0 0)] (tks tRule l 0)
    rw [length_tks] at hall
    refine FreezeD.flat (Freeze.mk (tks tRule l 0) _ 77 4 rfl hall (length_tks _ _ _) (tks_sz tRule l 0) (fun c hc => ?_) ?_)
    · rw [hall] at hc; exact tks_nr tRule l 0 c hc
    · refine Final.mk ?_ ?_
      · rw [List.take_length, Nat.zero_add]
      · rw [List.take_length]; rfl
theorem szRuleS.ret (l : List VRule) (a : Int) (h0 : 0 ≤ a) (ha : a ≤ 1048576) (hb : tRules.bd l) :
    szRuleS.Ret [.list none (rows tRule l), .val (.int .i64 a)] (.val (.int .i64 (left a (tRules.size l)))) [] := by
  refine szRuleS.of rfl ?_
  obtain ⟨hl, hb⟩ := hb
  have hw : IntKind.i64.wrap (a - ((rows tRule l).length : Int)) = a - l.length := by rw [length_rows]; exact wrap64 (by omega) (by omega)
  have hz := tRules_sz l
  repeat' first
    | (conv => whnf
       first | refine Need.mk rfl ?_ | refine Fork.dec (fun _ => ?_) (fun _ => ?_) | refine FinVal.keep ?_ | refine Final.mk ?_ rfl)
    | refine AV.int_congr ?_
  · rename_i h
    rw [hw] at h
    rw [left, if_pos (by omega)]
  rename_i h
  rw [hw] at h
  skip
  refine ALoop.mk Nat (fun i => ⟨[(0, .list none (rows tRule l)), (1, .val (.int .i64 (a - l.length - listSize tRule (l.take i)))), (5, .val (.int .i64 i))], [], []⟩) (fun i => i ≤ l.length ∧ (0 : Int) ≤ a - l.length - listSize tRule (l.take i)) (fun i => l.length - i) ⟨0, ⟨Nat.zero_le _, by simp [listSize]; omega⟩, ?_⟩ (fun i hi => ?_)
  · repeat' first
      | exact trivial | refine Weak.mk ?_ ?_ ?_ ?_ (Or.inl (Nat.le_of_ble_eq_true rfl)) | refine And.intro ?_ ?_ | with_reducible rfl | exact Nat.le_of_ble_eq_true rfl | refine AV.int_congr ?_ | refine AV.list_congr ?_ | (apply rfl)
    rw [hw]; simp [listSize]
  obtain ⟨hp1, hp2⟩ := hi
  have hle := listSize_take_le tRule l (i + 1)
  have hbi : i < l.length → tRule.bd (l.getD i default) := fun h => hb _ (List.mem_of_getElem? (tRule_get h))
  have hsz : i < l.length → listSize tRule (l.take (i + 1)) = listSize tRule (l.take i) + tRule.size (l.getD i default) := fun h => listSize_take_succ tRule (tRule_get h)
  repeat' first
    | (conv => whnf
       first | refine Need.mk rfl ?_ | refine Need.mk (Nat.le_of_ble_eq_true rfl) ?_ | refine Ix.mapF (fun _ => rfl) ?_ | refine Fork.dec (fun _ => ?_) (fun _ => ?_) | refine Round.mk ?_ | refine FinVal.keep ?_ | refine Final.mk ?_ rfl | refine ACall.scalA _ _ (szRule.ret _ _ ?_ ?_ ?_) rfl ?_)
    | refine AV.int_congr ?_
  · exact hp2
  · omega
  · rename_i h1
    rw [length_rows] at h1
    rw [Int.toNat_natCast]; exact hbi (by omega)
  · rename_i h1 h2
    rw [length_rows] at h1
    rw [Int.toNat_natCast] at h2
    have := hsz (by omega)
    unfold left at h2 ⊢
    split at h2
    · rw [if_pos (by omega)]
    · omega
  · rename_i h1 h2
    rw [length_rows] at h1
    rw [Int.toNat_natCast] at h2
    have := hsz (by omega)
    have e : left (a - ↑l.length - ↑(listSize tRule (l.take i))) (tRule.size (l.getD i default)) = a - ↑l.length - ↑(listSize tRule (l.take (i + 1))) := by
      unfold left at h2 ⊢
      split at h2
      · omega
      · rw [if_neg ‹_›]; omega
    refine ⟨i + 1, ⟨by omega, ?_⟩, ?_, by omega⟩
    · rw [← e]; omega
    · repeat' first
        | exact trivial | refine Weak.mk ?_ ?_ ?_ ?_ (Or.inl (Nat.le_of_ble_eq_true rfl)) | refine And.intro ?_ ?_ | with_reducible rfl | exact Nat.le_of_ble_eq_true rfl | refine AV.int_congr ?_ | refine AV.list_congr ?_ | (apply rfl)
      · rw [Int.toNat_natCast]; exact e
      · rw [wrap64 (by omega) (by omega)]; rfl
  · rename_i h1
    rw [length_rows] at h1
    rw [List.take_of_length_le (by omega)] at hp2 ⊢
    rw [left, if_neg (by omega)]; omega
theorem eqRuleS.big (l m : List VRule) (h : tRules.size l ≤ 1099511627775) : eqRuleS.Ret [.list none (rows tRule l), .list none (rows tRule m)] (.val (.bool (decide (l = m)))) [] := by
  refine eqRuleS.of rfl ?_
  rw [tRules_sz] at h
  repeat' first
    | (conv => whnf
       first | refine Need.mk rfl ?_ | refine Fork.bne (fun _ => ?_) (fun _ => ?_) | refine FinVal.keep ?_ | refine Final.mk ?_ rfl)
    | refine AV.bool_congr ?_
  · rename_i h
    rw [length_rows, length_rows] at h
    have h3 : ¬ l = m := fun e => h (by rw [e])
    simp [h3]
  rename_i h
  rw [length_rows, length_rows] at h
  have h : l.length = m.length := by omega
  skip
  refine ALoop.mk Nat (fun i => ⟨[(0, .list none (rows tRule l)), (1, .list none (rows tRule m)), (5, .val (.int .i64 i))], [], []⟩) (fun i => i ≤ l.length ∧ l.take i = m.take i) (fun i => l.length - i) ⟨0, ⟨Nat.zero_le _, rfl⟩, ?_⟩ (fun i hi => ?_)
  · repeat' first
      | exact trivial | refine Weak.mk ?_ ?_ ?_ ?_ (Or.inl (Nat.le_of_ble_eq_true rfl)) | refine And.intro ?_ ?_ | with_reducible rfl | exact Nat.le_of_ble_eq_true rfl | refine AV.int_congr ?_ | refine AV.list_congr ?_ | (apply rfl)
  repeat' first
    | (conv => whnf
       first | refine Need.mk rfl ?_ | refine Need.mk (Nat.le_of_ble_eq_true rfl) ?_ | refine Ix.mapF (fun _ => rfl) ?_ | refine Fork.dec (fun _ => ?_) (fun _ => ?_) | refine Fork.neg (fun _ => ?_) (fun _ => ?_) | refine Round.mk ?_ | refine FinVal.keep ?_ | refine Final.mk ?_ rfl | refine AQCall.mkA _ _ (fun hg => eqRule.big _ _ ?_) rfl ?_)
    | refine AV.bool_congr ?_
  · rename_i h1
    rw [length_rows] at h1
    have := listSize_mem tRule (List.mem_of_getElem? (tRule_get (l := l) (i := i) (by omega)))
    rw [Int.toNat_natCast]; omega
  · rename_i h1 h2
    have h3 : ¬ l = m := fun e => of_decide_eq_false h2 (by rw [e])
    simp [h3]
  · rename_i h1 h2
    rw [length_rows] at h1
    rw [Int.toNat_natCast] at h2
    refine ⟨i + 1, ⟨by omega, ?_⟩, ?_, by omega⟩
    · rw [take_succ' default (by omega), take_succ' (l := m) default (by omega), hi.2, of_decide_eq_true h2]
    · repeat' first
        | exact trivial | refine Weak.mk ?_ ?_ ?_ ?_ (Or.inl (Nat.le_of_ble_eq_true rfl)) | refine And.intro ?_ ?_ | with_reducible rfl | exact Nat.le_of_ble_eq_true rfl | refine AV.int_congr ?_ | refine AV.list_congr ?_ | (apply rfl)
      rw [wrap64 (by omega) (by omega)]; rfl
  · rename_i h1
    rw [length_rows] at h1
    have h2 := hi.2
    rw [List.take_of_length_le (by omega), List.take_of_length_le (by omega)] at h2
    simp [h2]
end Go.Proofs.YtfnejdkkhpjhmaaGreatDoor
namespace Go.Proofs.YtfnejdkkhpjhmaaGreatDoor
open Abs
theorem tFact_size (a : Fct) : tFct.size a = a.1.length + tStrs.size a.2 := rfl
theorem tFcts_sz (l : List Fct) : tFcts.size l = l.length + listSize tFct l := rfl
theorem tFct_get {l : List Fct} {i : Nat} (hi : i < l.length) : l[i]? = some (l.getD i default) := by simp [List.getD, hi]
theorem Abs.ACall.mk_FactS {C : Con} {lend : Bool} {f : Nat} {vs : List AV} {b : List ABox} {fr : Fr} {k : AV → List ABox → Fr → Prop} (ys : List AV) (l : List Fct) (h : C.ret f ys (.list (some (0 + (frs tFct l).length)) (tks tFct l 0)) (tFcts.fr l)) (hv : SeesL Sees0 vs ys)
    (hk : k (.list (some (fr.length + (frs tFct l).length)) (tks tFct l fr.length)) b (fr ++ tFcts.fr l)) : ACall C lend f vs b fr k :=
  ACall.mkV tFcts ys l (fun n => .list (some (n + (frs tFct l).length)) (tks tFct l n)) (fun _ => rfl) h hv hk
theorem eqFact.big (f g : Fct) (h : tFct.size f ≤ 1099511627775) : eqFact.Ret [.agg (oldL (tFct.q f)), .agg (oldL (tFct.q g))] (.val (.bool (decide (f = g)))) [] := by
  refine eqFact.of rfl ?_
  have hz := tFact_size f
  repeat' first
    | (conv => whnf
       first | refine Fork.sne (fun _ => ?_) (fun _ => ?_) | refine Fork.neg (fun _ => ?_) (fun _ => ?_) | refine FinVal.keep ?_ | refine Final.mk ?_ rfl | refine ACall.scalA _ _ (eqStringS.big _ _ ?_) rfl ?_)
    | refine AV.bool_congr ?_
  all_goals first
    | omega
    | (simp only [tStrs_size, tInts_size] at *; omega)
    | (obtain ⟨x0, x1⟩ := f; obtain ⟨y0, y1⟩ := g; simp_all)
theorem eqFactS.big (l m : List Fct) (h : tFcts.size l ≤ 1099511627775) : eqFactS.Ret [.list none (rows tFct l), .list none (rows tFct m)] (.val (.bool (decide (l = m)))) [] := by
  refine eqFactS.of rfl ?_
  rw [tFcts_sz] at h
  repeat' first
    | (conv => whnf
       first | refine Need.mk rfl ?_ | refine Fork.bne (fun _ => ?_) (fun _ => ?_) | refine FinVal.keep ?_ | refine Final.mk ?_ rfl)
    | refine AV.bool_congr ?_
  · rename_i h
    rw [length_rows, length_rows] at h
    have h3 : ¬ l = m := fun e => h (by rw [e])
    simp [h3]
  rename_i h
  rw [length_rows, length_rows] at h
  have h : l.length = m.length := by omega
  skip
  refine ALoop.mk Nat (fun i => ⟨[(0, .list none (rows tFct l)), (1, .list none (rows tFct m)), (5, .val (.int .i64 i))], [], []⟩) (fun i => i ≤ l.length ∧ l.take i = m.take i) (fun i => l.length - i) ⟨0, ⟨Nat.zero_le _, rfl⟩, ?_⟩ (fun i hi => ?_)
  · repeat' first
      | exact trivial | refine Weak.mk ?_ ?_ ?_ ?_ (Or.inl (Nat.le_of_ble_eq_true rfl)) | refine And.intro ?_ ?_ | with_reducible rfl | exact Nat.le_of_ble_eq_true rfl | refine AV.int_congr ?_ | refine AV.list_congr ?_ | (apply rfl)
  repeat' first
    | (conv => whnf
       first | refine Need.mk rfl ?_ | refine Need.mk (Nat.le_of_ble_eq_true rfl) ?_ | refine Ix.mapF (fun _ => rfl) ?_ | refine Fork.dec (fun _ => ?_) (fun _ => ?_) | refine Fork.neg (fun _ => ?_) (fun _ => ?_) | refine Round.mk ?_ | refine FinVal.keep ?_ | refine Final.mk ?_ rfl | refine AQCall.mkA _ _ (fun hg => eqFact.big _ _ ?_) rfl ?_)
    | refine AV.bool_congr ?_
  · rename_i h1
    rw [length_rows] at h1
    have := listSize_mem tFct (List.mem_of_getElem? (tFct_get (l := l) (i := i) (by omega)))
    rw [Int.toNat_natCast]; omega
  · rename_i h1 h2
    have h3 : ¬ l = m := fun e => of_decide_eq_false h2 (by rw [e])
    simp [h3]
  · rename_i h1 h2
    rw [length_rows] at h1
    rw [Int.toNat_natCast] at h2
    refine ⟨i + 1, ⟨by omega, ?_⟩, ?_, by omega⟩
    · rw [take_succ' default (by omega), take_succ' (l := m) default (by omega), hi.2, of_decide_eq_true h2]
    · repeat' first
        | exact trivial | refine Weak.mk ?_ ?_ ?_ ?_ (Or.inl (Nat.le_of_ble_eq_true rfl)) | refine And.intro ?_ ?_ | with_reducible rfl | exact Nat.le_of_ble_eq_true rfl | refine AV.int_congr ?_ | refine AV.list_congr ?_ | (apply rfl)
      rw [wrap64 (by omega) (by omega)]; rfl
  · rename_i h1
    rw [length_rows] at h1
    have h2 := hi.2
    rw [List.take_of_length_le (by omega), List.take_of_length_le (by omega)] at h2
    simp [h2]
end Go.Proofs.YtfnejdkkhpjhmaaGreatDoor
namespace Go.Proofs.YtfnejdkkhpjhmaaGreatDoor
open Abs
abbrev VAlpha := VPattern × List Fct
instance : DecidableEq VAlpha := instDecidableEqProd
def tAlpha : Ty VAlpha := Ty.pair tPattern tFcts
theorem tAlpha_size (a : VAlpha) : tAlpha.size a = tPattern.size a.1 + tFcts.size a.2 := rfl
def tAlphas : Ty (List VAlpha) := Ty.list 99 tAlpha
theorem tAlphas_sz (l : List VAlpha) : tAlphas.size l = l.length + listSize tAlpha l := rfl
theorem tAlpha_get {l : List VAlpha} {i : Nat} (hi : i < l.length) : l[i]? = some (l.getD i default) := by simp [List.getD, hi]
theorem Abs.ACall.mk_Alpha {C : Con} {lend : Bool} {f : Nat} {vs : List AV} {b : List ABox} {fr : Fr} {k : AV → List ABox → Fr → Prop} (ys : List AV) (a : VAlpha) (h : C.ret f ys (.agg (tAlpha.tk a 0)) (tAlpha.fr a)) (hv : SeesL Sees0 vs ys)
    (hk : k (.agg (tAlpha.tk a fr.length)) b (fr ++ tAlpha.fr a)) : ACall C lend f vs b fr k := ACall.mkA tAlpha ys a h hv hk
theorem Abs.ACall.mk_AlphaS {C : Con} {lend : Bool} {f : Nat} {vs : List AV} {b : List ABox} {fr : Fr} {k : AV → List ABox → Fr → Prop} (ys : List AV) (l : List VAlpha) (h : C.ret f ys (.list (some (0 + (frs tAlpha l).length)) (tks tAlpha l 0)) (tAlphas.fr l)) (hv : SeesL Sees0 vs ys)
    (hk : k (.list (some (fr.length + (frs tAlpha l).length)) (tks tAlpha l fr.length)) b (fr ++ tAlphas.fr l)) : ACall C lend f vs b fr k :=
  ACall.mkV tAlphas ys l (fun n => .list (some (n + (frs tAlpha l).length)) (tks tAlpha l n)) (fun _ => rfl) h hv hk
theorem toAlpha.ret (a : VAlpha) (h : tAlpha.size a ≤ 1048576) : toAlpha.Ret [.agg (oldL (tAlpha.q a))] (.agg (tAlpha.tk a 0)) (tAlpha.fr a) := by
  refine toAlpha.of rfl ?_
  rw [tAlpha_size] at h
  repeat' first
    | contradiction | exact trivial
    | (conv => whnf
       first | refine Need.mk (fun h => h) ?_ | refine Need.mk rfl ?_ | refine Need.mk ⟨rfl, Nat.le_of_ble_eq_true rfl⟩ ?_ | refine Need.mk (Nat.le_of_ble_eq_true rfl) ?_ | refine Need.fin ?_ | refine Need.mk ?_ ?_ | refine Ix.strsF rfl ?_ | refine Ix.strs rfl ?_ ?_ | refine Cut.strs rfl ?_ ?_ | refine Ix.mapF (fun _ => rfl) ?_ | refine Ix.map (fun _ => rfl) ?_ ?_ | refine Cut.map (fun _ => rfl) ?_ ?_ | refine Fork.yes (by assumption) ?_ | refine Fork.no (by assumption) ?_ | refine Fork.decYes (by omega) ?_ | refine Fork.decNo (by omega) ?_ | refine Fork.dec (fun _ => ?_) (fun _ => ?_) | refine Fork.bne (fun _ => ?_) (fun _ => ?_) | refine Fork.beq (fun _ => ?_) (fun _ => ?_) | refine Fork.seq (fun _ => ?_) (fun _ => ?_) | refine Fork.sne (fun _ => ?_) (fun _ => ?_) | refine Fork.neg (fun _ => ?_) (fun _ => ?_) | refine Fork.mk (fun _ => ?_) (fun _ => ?_) | refine HAlt.mk ?_ ?_ | apply HJoin.mk3 | exact HEnd.mk rfl rfl rfl | refine HEnd.mk ?_ ?_ ?_ | refine Round.mk ?_ | refine NilQ.mk (fun b hb => ?_) | refine forceK_of ?_ | refine forceBx_of ?_ | refine unG_old ?_ | refine unG_gv ?_ | refine Lit.read rfl ?_ | refine FinVal.keep ?_ | refine FinAgg.keep ?_ | refine Final.mk rfl rfl | refine Final.mk ?_ rfl | refine Final.mk ?_ ?_ | refine FinalT.mk ?_ ?_ | refine FinalI.mk ?_ | refine FinalC.allA ?_ | refine ACall.mk_Pattern _ _ (toPattern.ret _ ?_) (by repeat' first | exact SeesL.nil | refine SeesL.cons ?_ ?_ | exact SeesB.of0 (Sees0.val _) | exact SeesB.of0 (Sees0.str _) | exact SeesB.of0 (Sees0.olds _ _) | exact SeesB.of0 (Sees0.old _) | exact SeesB.of0 (Sees0.oldagg _) | exact SeesB.of0 Sees0.nil | exact Sees0.val _ | exact Sees0.str _ | exact Sees0.olds _ _ | exact Sees0.old _ | exact Sees0.oldagg _ | exact Sees0.nil | exact SeesB.of0 (Sees0.any _) | assumption | exact sees_gv _ _ _ (by assumption) (by first | assumption | exact BoxIn.last _ _ | exact BoxIn.more (BoxIn.last _ _) _) | refine SeesB.agg ?_ | refine Sees0.agg ?_ | exact SeesB.of0 (Sees0.clo SeesL.nil SeesL.nil) | exact Sees0.clo SeesL.nil SeesL.nil | exact SeesB.of0 (Sees0.list rfl) | exact Sees0.list rfl) ?_ | refine ACall.mk_FactS _ _ (toFactS.ret _ ?_) (by repeat' first | exact SeesL.nil | refine SeesL.cons ?_ ?_ | exact SeesB.of0 (Sees0.val _) | exact SeesB.of0 (Sees0.str _) | exact SeesB.of0 (Sees0.olds _ _) | exact SeesB.of0 (Sees0.old _) | exact SeesB.of0 (Sees0.oldagg _) | exact SeesB.of0 Sees0.nil | exact Sees0.val _ | exact Sees0.str _ | exact Sees0.olds _ _ | exact Sees0.old _ | exact Sees0.oldagg _ | exact Sees0.nil | exact SeesB.of0 (Sees0.any _) | assumption | exact sees_gv _ _ _ (by assumption) (by first | assumption | exact BoxIn.last _ _ | exact BoxIn.more (BoxIn.last _ _) _) | refine SeesB.agg ?_ | refine Sees0.agg ?_ | exact SeesB.of0 (Sees0.clo SeesL.nil SeesL.nil) | exact Sees0.clo SeesL.nil SeesL.nil | exact SeesB.of0 (Sees0.list rfl) | exact Sees0.list rfl) ?_)
    | refine AV.bool_congr ?_ | refine AV.int_congr ?_ | refine AV.str_congr ?_ | refine AV.list_congr ?_ | with_reducible rfl | refine fr1 ?_ | refine fr2 ?_ ?_
  all_goals first
    | omega
    | (refine congrArg AV.agg ?_
       repeat' first
         | refine cons_congr ?_ ?_
         | refine tok_congr ?_ ?_
         | refine congrArg (tks _ _) ?_
         | rfl
       all_goals (simp [Ty.pair, Ty.str, Ty.int, Ty.bool, Nat.add_assoc]; done))
    | (simp [tAlpha, Ty.pair, Ty.str, Ty.int, Ty.bool, List.append_assoc, Nat.add_assoc]; done)
theorem szAlpha.ret (f : VAlpha) (a : Int) (h0 : 0 ≤ a) (ha : a ≤ 1048576) (hb : tAlpha.bd f) :
    szAlpha.Ret [.agg (oldL (tAlpha.q f)), .val (.int .i64 a)] (.val (.int .i64 (left a (tAlpha.size f)))) [] := by
  refine szAlpha.of rfl ?_
  have hz := tAlpha_size f
  obtain ⟨hb0, hb1⟩ := hb
  by_cases c1 : a < (tPattern.size f.1 : Int)
  · have e0 : left a (tPattern.size f.1) = -1 := by rw [left, if_pos (by omega)]
    repeat' first
      | contradiction | exact trivial
      | (conv => whnf
         first | refine Need.mk (fun h => h) ?_ | refine Need.mk rfl ?_ | refine Need.mk ⟨rfl, Nat.le_of_ble_eq_true rfl⟩ ?_ | refine Need.mk (Nat.le_of_ble_eq_true rfl) ?_ | refine Need.fin ?_ | refine Need.mk ?_ ?_ | refine Ix.strsF rfl ?_ | refine Ix.strs rfl ?_ ?_ | refine Cut.strs rfl ?_ ?_ | refine Ix.mapF (fun _ => rfl) ?_ | refine Ix.map (fun _ => rfl) ?_ ?_ | refine Cut.map (fun _ => rfl) ?_ ?_ | refine Fork.yes (by assumption) ?_ | refine Fork.no (by assumption) ?_ | refine Fork.decYes (by omega) ?_ | refine Fork.decNo (by omega) ?_ | refine Fork.dec (fun _ => ?_) (fun _ => ?_) | refine Fork.bne (fun _ => ?_) (fun _ => ?_) | refine Fork.beq (fun _ => ?_) (fun _ => ?_) | refine Fork.seq (fun _ => ?_) (fun _ => ?_) | refine Fork.sne (fun _ => ?_) (fun _ => ?_) | refine Fork.neg (fun _ => ?_) (fun _ => ?_) | refine Fork.mk (fun _ => ?_) (fun _ => ?_) | refine HAlt.mk ?_ ?_ | apply HJoin.mk3 | exact HEnd.mk rfl rfl rfl | refine HEnd.mk ?_ ?_ ?_ | refine Round.mk ?_ | refine NilQ.mk (fun b hb => ?_) | refine forceK_of ?_ | refine forceBx_of ?_ | refine unG_old ?_ | refine unG_gv ?_ | refine Lit.read rfl ?_ | refine FinVal.keep ?_ | refine FinAgg.keep ?_ | refine Final.mk rfl rfl | refine Final.mk ?_ rfl | refine Final.mk ?_ ?_ | refine FinalT.mk ?_ ?_ | refine FinalI.mk ?_ | refine FinalC.allA ?_ | refine ACall.scalA _ _ (szPattern.ret _ _ ?_ ?_ ?_) rfl ?_ | refine AQCall.mkA _ _ (fun hg => szPattern.ret _ _ ?_ ?_ ?_) rfl ?_ | refine AGCall.mkA _ _ (fun hg => szPattern.ret _ _ ?_ ?_ ?_) rfl ?_ | refine ACall.scalA _ _ (szFactS.ret _ _ ?_ ?_ ?_) rfl ?_ | refine AQCall.mkA _ _ (fun hg => szFactS.ret _ _ ?_ ?_ ?_) rfl ?_ | refine AGCall.mkA _ _ (fun hg => szFactS.ret _ _ ?_ ?_ ?_) rfl ?_)
      | refine AV.bool_congr ?_ | refine AV.int_congr ?_ | refine AV.str_congr ?_ | refine AV.list_congr ?_ | with_reducible rfl | refine fr1 ?_ | refine fr2 ?_ ?_
    all_goals first
      | assumption
      | omega
      | exact left_eq (by omega)
  by_cases c2 : a < (tPattern.size f.1 : Int) + (tFcts.size f.2 : Int)
  · have e0 : left a (tPattern.size f.1) = a - (tPattern.size f.1 : Int) := by rw [left, if_neg (by omega)]
    have e1 : left (left a (tPattern.size f.1)) (tFcts.size f.2) = -1 := by rw [e0, left, if_pos (by omega)]
    repeat' first
      | contradiction | exact trivial
      | (conv => whnf
         first | refine Need.mk (fun h => h) ?_ | refine Need.mk rfl ?_ | refine Need.mk ⟨rfl, Nat.le_of_ble_eq_true rfl⟩ ?_ | refine Need.mk (Nat.le_of_ble_eq_true rfl) ?_ | refine Need.fin ?_ | refine Need.mk ?_ ?_ | refine Ix.strsF rfl ?_ | refine Ix.strs rfl ?_ ?_ | refine Cut.strs rfl ?_ ?_ | refine Ix.mapF (fun _ => rfl) ?_ | refine Ix.map (fun _ => rfl) ?_ ?_ | refine Cut.map (fun _ => rfl) ?_ ?_ | refine Fork.yes (by assumption) ?_ | refine Fork.no (by assumption) ?_ | refine Fork.decYes (by omega) ?_ | refine Fork.decNo (by omega) ?_ | refine Fork.dec (fun _ => ?_) (fun _ => ?_) | refine Fork.bne (fun _ => ?_) (fun _ => ?_) | refine Fork.beq (fun _ => ?_) (fun _ => ?_) | refine Fork.seq (fun _ => ?_) (fun _ => ?_) | refine Fork.sne (fun _ => ?_) (fun _ => ?_) | refine Fork.neg (fun _ => ?_) (fun _ => ?_) | refine Fork.mk (fun _ => ?_) (fun _ => ?_) | refine HAlt.mk ?_ ?_ | apply HJoin.mk3 | exact HEnd.mk rfl rfl rfl | refine HEnd.mk ?_ ?_ ?_ | refine Round.mk ?_ | refine NilQ.mk (fun b hb => ?_) | refine forceK_of ?_ | refine forceBx_of ?_ | refine unG_old ?_ | refine unG_gv ?_ | refine Lit.read rfl ?_ | refine FinVal.keep ?_ | refine FinAgg.keep ?_ | refine Final.mk rfl rfl | refine Final.mk ?_ rfl | refine Final.mk ?_ ?_ | refine FinalT.mk ?_ ?_ | refine FinalI.mk ?_ | refine FinalC.allA ?_ | refine ACall.scalA _ _ (szPattern.ret _ _ ?_ ?_ ?_) rfl ?_ | refine AQCall.mkA _ _ (fun hg => szPattern.ret _ _ ?_ ?_ ?_) rfl ?_ | refine AGCall.mkA _ _ (fun hg => szPattern.ret _ _ ?_ ?_ ?_) rfl ?_ | refine ACall.scalA _ _ (szFactS.ret _ _ ?_ ?_ ?_) rfl ?_ | refine AQCall.mkA _ _ (fun hg => szFactS.ret _ _ ?_ ?_ ?_) rfl ?_ | refine AGCall.mkA _ _ (fun hg => szFactS.ret _ _ ?_ ?_ ?_) rfl ?_)
      | refine AV.bool_congr ?_ | refine AV.int_congr ?_ | refine AV.str_congr ?_ | refine AV.list_congr ?_ | with_reducible rfl | refine fr1 ?_ | refine fr2 ?_ ?_
    all_goals first
      | assumption
      | omega
      | exact left_eq (by omega)
  have e0 : left a (tPattern.size f.1) = a - (tPattern.size f.1 : Int) := by rw [left, if_neg (by omega)]
  have e1 : left (left a (tPattern.size f.1)) (tFcts.size f.2) = a - (tPattern.size f.1 : Int) - (tFcts.size f.2 : Int) := by rw [e0, left, if_neg (by omega)]
  repeat' first
    | contradiction | exact trivial
    | (conv => whnf
       first | refine Need.mk (fun h => h) ?_ | refine Need.mk rfl ?_ | refine Need.mk ⟨rfl, Nat.le_of_ble_eq_true rfl⟩ ?_ | refine Need.mk (Nat.le_of_ble_eq_true rfl) ?_ | refine Need.fin ?_ | refine Need.mk ?_ ?_ | refine Ix.strsF rfl ?_ | refine Ix.strs rfl ?_ ?_ | refine Cut.strs rfl ?_ ?_ | refine Ix.mapF (fun _ => rfl) ?_ | refine Ix.map (fun _ => rfl) ?_ ?_ | refine Cut.map (fun _ => rfl) ?_ ?_ | refine Fork.yes (by assumption) ?_ | refine Fork.no (by assumption) ?_ | refine Fork.decYes (by omega) ?_ | refine Fork.decNo (by omega) ?_ | refine Fork.dec (fun _ => ?_) (fun _ => ?_) | refine Fork.bne (fun _ => ?_) (fun _ => ?_) | refine Fork.beq (fun _ => ?_) (fun _ => ?_) | refine Fork.seq (fun _ => ?_) (fun _ => ?_) | refine Fork.sne (fun _ => ?_) (fun _ => ?_) | refine Fork.neg (fun _ => ?_) (fun _ => ?_) | refine Fork.mk (fun _ => ?_) (fun _ => ?_) | refine HAlt.mk ?_ ?_ | apply HJoin.mk3 | exact HEnd.mk rfl rfl rfl | refine HEnd.mk ?_ ?_ ?_ | refine Round.mk ?_ | refine NilQ.mk (fun b hb => ?_) | refine forceK_of ?_ | refine forceBx_of ?_ | refine unG_old ?_ | refine unG_gv ?_ | refine Lit.read rfl ?_ | refine FinVal.keep ?_ | refine FinAgg.keep ?_ | refine Final.mk rfl rfl | refine Final.mk ?_ rfl | refine Final.mk ?_ ?_ | refine FinalT.mk ?_ ?_ | refine FinalI.mk ?_ | refine FinalC.allA ?_ | refine ACall.scalA _ _ (szPattern.ret _ _ ?_ ?_ ?_) rfl ?_ | refine AQCall.mkA _ _ (fun hg => szPattern.ret _ _ ?_ ?_ ?_) rfl ?_ | refine AGCall.mkA _ _ (fun hg => szPattern.ret _ _ ?_ ?_ ?_) rfl ?_ | refine ACall.scalA _ _ (szFactS.ret _ _ ?_ ?_ ?_) rfl ?_ | refine AQCall.mkA _ _ (fun hg => szFactS.ret _ _ ?_ ?_ ?_) rfl ?_ | refine AGCall.mkA _ _ (fun hg => szFactS.ret _ _ ?_ ?_ ?_) rfl ?_)
    | refine AV.bool_congr ?_ | refine AV.int_congr ?_ | refine AV.str_congr ?_ | refine AV.list_congr ?_ | with_reducible rfl | refine fr1 ?_ | refine fr2 ?_ ?_
  all_goals first
    | assumption
    | omega
    | exact left_eq (by omega)
theorem eqAlpha.big (f g : VAlpha) (h : tAlpha.size f ≤ 1099511627775) : eqAlpha.Ret [.agg (oldL (tAlpha.q f)), .agg (oldL (tAlpha.q g))] (.val (.bool (decide (f = g)))) [] := by
  refine eqAlpha.of rfl ?_
  have hz := tAlpha_size f
  repeat' first
    | contradiction | exact trivial
    | (conv => whnf
       first | refine Need.mk (fun h => h) ?_ | refine Need.mk rfl ?_ | refine Need.mk ⟨rfl, Nat.le_of_ble_eq_true rfl⟩ ?_ | refine Need.mk (Nat.le_of_ble_eq_true rfl) ?_ | refine Need.fin ?_ | refine Need.mk ?_ ?_ | refine Ix.strsF rfl ?_ | refine Ix.strs rfl ?_ ?_ | refine Cut.strs rfl ?_ ?_ | refine Ix.mapF (fun _ => rfl) ?_ | refine Ix.map (fun _ => rfl) ?_ ?_ | refine Cut.map (fun _ => rfl) ?_ ?_ | refine Fork.yes (by assumption) ?_ | refine Fork.no (by assumption) ?_ | refine Fork.decYes (by omega) ?_ | refine Fork.decNo (by omega) ?_ | refine Fork.dec (fun _ => ?_) (fun _ => ?_) | refine Fork.bne (fun _ => ?_) (fun _ => ?_) | refine Fork.beq (fun _ => ?_) (fun _ => ?_) | refine Fork.seq (fun _ => ?_) (fun _ => ?_) | refine Fork.sne (fun _ => ?_) (fun _ => ?_) | refine Fork.neg (fun _ => ?_) (fun _ => ?_) | refine Fork.mk (fun _ => ?_) (fun _ => ?_) | refine HAlt.mk ?_ ?_ | apply HJoin.mk3 | exact HEnd.mk rfl rfl rfl | refine HEnd.mk ?_ ?_ ?_ | refine Round.mk ?_ | refine NilQ.mk (fun b hb => ?_) | refine forceK_of ?_ | refine forceBx_of ?_ | refine unG_old ?_ | refine unG_gv ?_ | refine Lit.read rfl ?_ | refine FinVal.keep ?_ | refine FinAgg.keep ?_ | refine Final.mk rfl rfl | refine Final.mk ?_ rfl | refine Final.mk ?_ ?_ | refine FinalT.mk ?_ ?_ | refine FinalI.mk ?_ | refine FinalC.allA ?_ | refine ACall.scalA _ _ (eqPattern.big _ _ ?_) rfl ?_ | refine AQCall.mkA _ _ (fun hg => eqPattern.big _ _ ?_) rfl ?_ | refine AGCall.mkA _ _ (fun hg => eqPattern.big _ _ ?_) rfl ?_ | refine ACall.scalA _ _ (eqFactS.big _ _ ?_) rfl ?_ | refine AQCall.mkA _ _ (fun hg => eqFactS.big _ _ ?_) rfl ?_ | refine AGCall.mkA _ _ (fun hg => eqFactS.big _ _ ?_) rfl ?_)
    | refine AV.bool_congr ?_ | refine AV.int_congr ?_ | refine AV.str_congr ?_ | refine AV.list_congr ?_ | with_reducible rfl | refine fr1 ?_ | refine fr2 ?_ ?_
  all_goals first
    | omega
    | (simp only [tStrs_size, tInts_size] at *; omega)
    | (obtain ⟨⟨x00, x01⟩, x1⟩ := f; obtain ⟨⟨y00, y01⟩, y1⟩ := g; simp_all)
theorem toAlphaS.ret (l : List VAlpha) (h : tAlphas.size l ≤ 1048576) : toAlphaS.Ret [.list none (rows tAlpha l)] (.list (some (0 + (frs tAlpha l).length)) (tks tAlpha l 0)) (tAlphas.fr l) := by
  refine toAlphaS.of rfl ?_
  rw [tAlphas_sz] at h
  repeat' first
    | contradiction | exact trivial
    | (conv => whnf
       first | refine Need.mk (fun h => h) ?_ | refine Need.mk rfl ?_ | refine Need.mk ⟨rfl, Nat.le_of_ble_eq_true rfl⟩ ?_ | refine Need.mk (Nat.le_of_ble_eq_true rfl) ?_ | refine Need.fin ?_ | refine Need.mk ?_ ?_ | refine Ix.strsF rfl ?_ | refine Ix.strs rfl ?_ ?_ | refine Cut.strs rfl ?_ ?_ | refine Ix.mapF (fun _ => rfl) ?_ | refine Ix.map (fun _ => rfl) ?_ ?_ | refine Cut.map (fun _ => rfl) ?_ ?_ | refine Fork.yes (by assumption) ?_ | refine Fork.no (by assumption) ?_ | refine Fork.decYes (by omega) ?_ | refine Fork.decNo (by omega) ?_ | refine Fork.dec (fun _ => ?_) (fun _ => ?_) | refine Fork.bne (fun _ => ?_) (fun _ => ?_) | refine Fork.beq (fun _ => ?_) (fun _ => ?_) | refine Fork.seq (fun _ => ?_) (fun _ => ?_) | refine Fork.sne (fun _ => ?_) (fun _ => ?_) | refine Fork.neg (fun _ => ?_) (fun _ => ?_) | refine Fork.mk (fun _ => ?_) (fun _ => ?_) | refine HAlt.mk ?_ ?_ | apply HJoin.mk3 | exact HEnd.mk rfl rfl rfl | refine HEnd.mk ?_ ?_ ?_ | refine Round.mk ?_ | refine NilQ.mk (fun b hb => ?_) | refine forceK_of ?_ | refine forceBx_of ?_ | refine unG_old ?_ | refine unG_gv ?_ | refine Lit.read rfl ?_ | refine FinVal.keep ?_ | refine FinAgg.keep ?_ | refine Final.mk rfl rfl | refine Final.mk ?_ rfl | refine Final.mk ?_ ?_ | refine FinalT.mk ?_ ?_ | refine FinalI.mk ?_ | refine FinalC.allA ?_)
    | refine AV.bool_congr ?_ | refine AV.int_congr ?_ | refine AV.str_congr ?_ | refine AV.list_congr ?_ | with_reducible rfl | refine fr1 ?_ | refine fr2 ?_ ?_
  refine ALoop.mk Nat (fun i => ⟨[(0, .list none (rows tAlpha l)), (3, .bsl 0 l.length), (4, .val (.int .i64 i))], [.cells (.row 99 3) (part [.str [], .val (.slice none 0 0), .val (.slice none 0 0)] (tks tAlpha l 0) i)], frs tAlpha (l.take i)⟩) (fun i => i ≤ l.length) (fun i => l.length - i) ⟨0, Nat.zero_le _, ?_⟩ (fun i hi => ?_)
  · repeat' first
      | exact trivial | refine Weak.mk ?_ ?_ ?_ ?_ (Or.inl (Nat.le_of_ble_eq_true rfl)) | refine Weak.mk ?_ ?_ ?_ ?_ (Or.inr ⟨(by repeat' first | exact trivial | exact Nat.le_of_ble_eq_true rfl | refine And.intro ?_ ?_), (by repeat' first | exact trivial | exact Nat.le_of_ble_eq_true rfl | refine And.intro ?_ ?_)⟩) | refine Weak.mk ?_ ?_ ?_ ?_ ?_ | refine And.intro ?_ ?_ | with_reducible rfl | exact Nat.le_of_ble_eq_true rfl | refine fr1 ?_ | refine fr2 ?_ ?_ | refine AV.int_congr ?_ | refine AV.bool_congr ?_ | refine AV.str_congr ?_ | refine AV.list_congr ?_ | refine AV.bsl_congr ?_ ?_ | (apply rfl)
    · simp
    · simp only [List.nil_append, List.length_cons, List.length_nil, List.take_succ_cons, List.take_zero]
      rw [part_made (xs := tks tAlpha l 0) (sz := 3) rfl (by decide) (by simp [length_tks])]; rfl
  repeat' first
    | contradiction | exact trivial
    | (conv => whnf
       first | refine Need.mk (fun h => h) ?_ | refine Need.mk rfl ?_ | refine Need.mk ⟨rfl, Nat.le_of_ble_eq_true rfl⟩ ?_ | refine Need.mk (Nat.le_of_ble_eq_true rfl) ?_ | refine Need.fin ?_ | refine Need.mk ?_ ?_ | refine Ix.strsF rfl ?_ | refine Ix.strs rfl ?_ ?_ | refine Cut.strs rfl ?_ ?_ | refine Ix.mapF (fun _ => rfl) ?_ | refine Ix.map (fun _ => rfl) ?_ ?_ | refine Cut.map (fun _ => rfl) ?_ ?_ | refine Fork.yes (by assumption) ?_ | refine Fork.no (by assumption) ?_ | refine Fork.decYes (by omega) ?_ | refine Fork.decNo (by omega) ?_ | refine Fork.dec (fun _ => ?_) (fun _ => ?_) | refine Fork.bne (fun _ => ?_) (fun _ => ?_) | refine Fork.beq (fun _ => ?_) (fun _ => ?_) | refine Fork.seq (fun _ => ?_) (fun _ => ?_) | refine Fork.sne (fun _ => ?_) (fun _ => ?_) | refine Fork.neg (fun _ => ?_) (fun _ => ?_) | refine Fork.mk (fun _ => ?_) (fun _ => ?_) | refine HAlt.mk ?_ ?_ | apply HJoin.mk3 | exact HEnd.mk rfl rfl rfl | refine HEnd.mk ?_ ?_ ?_ | refine Round.mk ?_ | refine NilQ.mk (fun b hb => ?_) | refine forceK_of ?_ | refine forceBx_of ?_ | refine unG_old ?_ | refine unG_gv ?_ | refine Lit.read rfl ?_ | refine FinVal.keep ?_ | refine FinAgg.keep ?_ | refine Final.mk rfl rfl | refine Final.mk ?_ rfl | refine Final.mk ?_ ?_ | refine FinalT.mk ?_ ?_ | refine FinalI.mk ?_ | refine FinalC.allA ?_ | refine ACall.mk_Alpha _ _ (toAlpha.ret _ ?_) (by repeat' first | exact SeesL.nil | refine SeesL.cons ?_ ?_ | exact SeesB.of0 (Sees0.val _) | exact SeesB.of0 (Sees0.str _) | exact SeesB.of0 (Sees0.olds _ _) | exact SeesB.of0 (Sees0.old _) | exact SeesB.of0 (Sees0.oldagg _) | exact SeesB.of0 Sees0.nil | exact Sees0.val _ | exact Sees0.str _ | exact Sees0.olds _ _ | exact Sees0.old _ | exact Sees0.oldagg _ | exact Sees0.nil | exact SeesB.of0 (Sees0.any _) | assumption | exact sees_gv _ _ _ (by assumption) (by first | assumption | exact BoxIn.last _ _ | exact BoxIn.more (BoxIn.last _ _) _) | refine SeesB.agg ?_ | refine Sees0.agg ?_ | exact SeesB.of0 (Sees0.clo SeesL.nil SeesL.nil) | exact Sees0.clo SeesL.nil SeesL.nil | exact SeesB.of0 (Sees0.list rfl) | exact Sees0.list rfl) ?_)
    | refine AV.bool_congr ?_ | refine AV.int_congr ?_ | refine AV.str_congr ?_ | refine AV.list_congr ?_ | with_reducible rfl | refine fr1 ?_ | refine fr2 ?_ ?_
  · rename_i h1
    rw [length_rows] at h1
    have := listSize_mem tAlpha (List.mem_of_getElem? (tAlpha_get (l := l) (i := i) (by omega)))
    rw [Int.toNat_natCast]; omega
  · rename_i h1
    rw [length_rows] at h1
    rw [part_len (sz := 3) rfl (tks_sz tAlpha l 0) (by rw [length_tks]; exact hi), Int.toNat_natCast, length_tks]
    exact ⟨rfl, by omega⟩
  · rename_i h1
    rw [length_rows] at h1
    refine ⟨i + 1, by omega, ?_, by omega⟩
    repeat' first
      | exact trivial | refine Weak.mk ?_ ?_ ?_ ?_ (Or.inl (Nat.le_of_ble_eq_true rfl)) | refine Weak.mk ?_ ?_ ?_ ?_ (Or.inr ⟨(by repeat' first | exact trivial | exact Nat.le_of_ble_eq_true rfl | refine And.intro ?_ ?_), (by repeat' first | exact trivial | exact Nat.le_of_ble_eq_true rfl | refine And.intro ?_ ?_)⟩) | refine Weak.mk ?_ ?_ ?_ ?_ ?_ | refine And.intro ?_ ?_ | with_reducible rfl | exact Nat.le_of_ble_eq_true rfl | refine fr1 ?_ | refine fr2 ?_ ?_ | refine AV.int_congr ?_ | refine AV.bool_congr ?_ | refine AV.str_congr ?_ | refine AV.list_congr ?_ | refine AV.bsl_congr ?_ ?_ | (apply rfl)
    · rw [wrap64 (by omega) (by omega)]; rfl
    · have := part_set (z := [.str [], .val (.slice none 0 0), .val (.slice none 0 0)]) (sz := 3) rfl (tks_sz tAlpha l 0) (tks_get tAlpha 0 (tAlpha_get (l := l) (i := i) (by omega)))
      rw [Nat.zero_add] at this
      simp only [List.set_cons_zero, List.take_succ_cons, List.take_zero, List.length_cons, List.length_nil, Int.toNat_natCast, this]
    · show frs tAlpha (l.take i) ++ tAlpha.fr (l.getD (i : Int).toNat default) = frs tAlpha (l.take (i + 1))
      rw [Int.toNat_natCast, take_succ' default (by omega), frs_append]; simp [frs]
  · rename_i h1
    rw [length_rows] at h1
    conv => whnf
    have : i = l.length := by omega
    subst this
    have hall := part_all [.str [], .val (.slice none 0 0), .val (.slice none 0 0)] (tks tAlpha l 0)
    rw [length_tks] at hall
    refine FreezeD.flat (Freeze.mk (tks tAlpha l 0) _ 99 3 rfl hall (length_tks _ _ _) (tks_sz tAlpha l 0) (fun c hc => ?_) ?_)
    · rw [hall] at hc; exact tks_nr tAlpha l 0 c hc
    · refine Final.mk ?_ ?_
      · rw [List.take_length, Nat.zero_add]
      · rw [List.take_length]; rfl
theorem szAlphaS.ret (l : List VAlpha) (a : Int) (h0 : 0 ≤ a) (ha : a ≤ 1048576) (hb : tAlphas.bd l) :
    szAlphaS.Ret [.list none (rows tAlpha l), .val (.int .i64 a)] (.val (.int .i64 (left a (tAlphas.size l)))) [] := by
  refine szAlphaS.of rfl ?_
  obtain ⟨hl, hb⟩ := hb
  have hw : IntKind.i64.wrap (a - ((rows tAlpha l).length : Int)) = a - l.length := by rw [length_rows]; exact wrap64 (by omega) (by omega)
  have hz := tAlphas_sz l
  repeat' first
    | contradiction | exact trivial
    | (conv => whnf
       first | refine Need.mk (fun h => h) ?_ | refine Need.mk rfl ?_ | refine Need.mk ⟨rfl, Nat.le_of_ble_eq_true rfl⟩ ?_ | refine Need.mk (Nat.le_of_ble_eq_true rfl) ?_ | refine Need.fin ?_ | refine Need.mk ?_ ?_ | refine Ix.strsF rfl ?_ | refine Ix.strs rfl ?_ ?_ | refine Cut.strs rfl ?_ ?_ | refine Ix.mapF (fun _ => rfl) ?_ | refine Ix.map (fun _ => rfl) ?_ ?_ | refine Cut.map (fun _ => rfl) ?_ ?_ | refine Fork.yes (by assumption) ?_ | refine Fork.no (by assumption) ?_ | refine Fork.decYes (by omega) ?_ | refine Fork.decNo (by omega) ?_ | refine Fork.dec (fun _ => ?_) (fun _ => ?_) | refine Fork.bne (fun _ => ?_) (fun _ => ?_) | refine Fork.beq (fun _ => ?_) (fun _ => ?_) | refine Fork.seq (fun _ => ?_) (fun _ => ?_) | refine Fork.sne (fun _ => ?_) (fun _ => ?_) | refine Fork.neg (fun _ => ?_) (fun _ => ?_) | refine Fork.mk (fun _ => ?_) (fun _ => ?_) | refine HAlt.mk ?_ ?_ | apply HJoin.mk3 | exact HEnd.mk rfl rfl rfl | refine HEnd.mk ?_ ?_ ?_ | refine Round.mk ?_ | refine NilQ.mk (fun b hb => ?_) | refine forceK_of ?_ | refine forceBx_of ?_ | refine unG_old ?_ | refine unG_gv ?_ | refine Lit.read rfl ?_ | refine FinVal.keep ?_ | refine FinAgg.keep ?_ | refine Final.mk rfl rfl | refine Final.mk ?_ rfl | refine Final.mk ?_ ?_ | refine FinalT.mk ?_ ?_ | refine FinalI.mk ?_ | refine FinalC.allA ?_)
    | refine AV.bool_congr ?_ | refine AV.int_congr ?_ | refine AV.str_congr ?_ | refine AV.list_congr ?_ | with_reducible rfl | refine fr1 ?_ | refine fr2 ?_ ?_
  · rename_i h
    rw [hw] at h
    rw [left, if_pos (by omega)]
  rename_i h
  rw [hw] at h
  repeat' first
    | contradiction | exact trivial
    | (conv => whnf
       first | refine Need.mk (fun h => h) ?_ | refine Need.mk rfl ?_ | refine Need.mk ⟨rfl, Nat.le_of_ble_eq_true rfl⟩ ?_ | refine Need.mk (Nat.le_of_ble_eq_true rfl) ?_ | refine Need.fin ?_ | refine Need.mk ?_ ?_ | refine Ix.strsF rfl ?_ | refine Ix.strs rfl ?_ ?_ | refine Cut.strs rfl ?_ ?_ | refine Ix.mapF (fun _ => rfl) ?_ | refine Ix.map (fun _ => rfl) ?_ ?_ | refine Cut.map (fun _ => rfl) ?_ ?_ | refine Fork.yes (by assumption) ?_ | refine Fork.no (by assumption) ?_ | refine Fork.decYes (by omega) ?_ | refine Fork.decNo (by omega) ?_ | refine Fork.dec (fun _ => ?_) (fun _ => ?_) | refine Fork.bne (fun _ => ?_) (fun _ => ?_) | refine Fork.beq (fun _ => ?_) (fun _ => ?_) | refine Fork.seq (fun _ => ?_) (fun _ => ?_) | refine Fork.sne (fun _ => ?_) (fun _ => ?_) | refine Fork.neg (fun _ => ?_) (fun _ => ?_) | refine Fork.mk (fun _ => ?_) (fun _ => ?_) | refine HAlt.mk ?_ ?_ | apply HJoin.mk3 | exact HEnd.mk rfl rfl rfl | refine HEnd.mk ?_ ?_ ?_ | refine Round.mk ?_ | refine NilQ.mk (fun b hb => ?_) | refine forceK_of ?_ | refine forceBx_of ?_ | refine unG_old ?_ | refine unG_gv ?_ | refine Lit.read rfl ?_ | refine FinVal.keep ?_ | refine FinAgg.keep ?_ | refine Final.mk rfl rfl | refine Final.mk ?_ rfl | refine Final.mk ?_ ?_ | refine FinalT.mk ?_ ?_ | refine FinalI.mk ?_ | refine FinalC.allA ?_)
    | refine AV.bool_congr ?_ | refine AV.int_congr ?_ | refine AV.str_congr ?_ | refine AV.list_congr ?_ | with_reducible rfl | refine fr1 ?_ | refine fr2 ?_ ?_
  refine ALoop.mk Nat (fun i => ⟨[(0, .list none (rows tAlpha l)), (1, .val (.int .i64 (a - l.length - listSize tAlpha (l.take i)))), (5, .val (.int .i64 i))], [], []⟩) (fun i => i ≤ l.length ∧ (0 : Int) ≤ a - l.length - listSize tAlpha (l.take i)) (fun i => l.length - i) ⟨0, ⟨Nat.zero_le _, by simp [listSize]; omega⟩, ?_⟩ (fun i hi => ?_)
  · repeat' first
      | exact trivial | refine Weak.mk ?_ ?_ ?_ ?_ (Or.inl (Nat.le_of_ble_eq_true rfl)) | refine Weak.mk ?_ ?_ ?_ ?_ (Or.inr ⟨(by repeat' first | exact trivial | exact Nat.le_of_ble_eq_true rfl | refine And.intro ?_ ?_), (by repeat' first | exact trivial | exact Nat.le_of_ble_eq_true rfl | refine And.intro ?_ ?_)⟩) | refine Weak.mk ?_ ?_ ?_ ?_ ?_ | refine And.intro ?_ ?_ | with_reducible rfl | exact Nat.le_of_ble_eq_true rfl | refine fr1 ?_ | refine fr2 ?_ ?_ | refine AV.int_congr ?_ | refine AV.bool_congr ?_ | refine AV.str_congr ?_ | refine AV.list_congr ?_ | refine AV.bsl_congr ?_ ?_ | (apply rfl)
    rw [hw]; simp [listSize]
  obtain ⟨hp1, hp2⟩ := hi
  have hle := listSize_take_le tAlpha l (i + 1)
  have hbi : i < l.length → tAlpha.bd (l.getD i default) := fun h => hb _ (List.mem_of_getElem? (tAlpha_get h))
  have hsz : i < l.length → listSize tAlpha (l.take (i + 1)) = listSize tAlpha (l.take i) + tAlpha.size (l.getD i default) := fun h => listSize_take_succ tAlpha (tAlpha_get h)
  repeat' first
    | contradiction | exact trivial
    | (conv => whnf
       first | refine Need.mk (fun h => h) ?_ | refine Need.mk rfl ?_ | refine Need.mk ⟨rfl, Nat.le_of_ble_eq_true rfl⟩ ?_ | refine Need.mk (Nat.le_of_ble_eq_true rfl) ?_ | refine Need.fin ?_ | refine Need.mk ?_ ?_ | refine Ix.strsF rfl ?_ | refine Ix.strs rfl ?_ ?_ | refine Cut.strs rfl ?_ ?_ | refine Ix.mapF (fun _ => rfl) ?_ | refine Ix.map (fun _ => rfl) ?_ ?_ | refine Cut.map (fun _ => rfl) ?_ ?_ | refine Fork.yes (by assumption) ?_ | refine Fork.no (by assumption) ?_ | refine Fork.decYes (by omega) ?_ | refine Fork.decNo (by omega) ?_ | refine Fork.dec (fun _ => ?_) (fun _ => ?_) | refine Fork.bne (fun _ => ?_) (fun _ => ?_) | refine Fork.beq (fun _ => ?_) (fun _ => ?_) | refine Fork.seq (fun _ => ?_) (fun _ => ?_) | refine Fork.sne (fun _ => ?_) (fun _ => ?_) | refine Fork.neg (fun _ => ?_) (fun _ => ?_) | refine Fork.mk (fun _ => ?_) (fun _ => ?_) | refine HAlt.mk ?_ ?_ | apply HJoin.mk3 | exact HEnd.mk rfl rfl rfl | refine HEnd.mk ?_ ?_ ?_ | refine Round.mk ?_ | refine NilQ.mk (fun b hb => ?_) | refine forceK_of ?_ | refine forceBx_of ?_ | refine unG_old ?_ | refine unG_gv ?_ | refine Lit.read rfl ?_ | refine FinVal.keep ?_ | refine FinAgg.keep ?_ | refine Final.mk rfl rfl | refine Final.mk ?_ rfl | refine Final.mk ?_ ?_ | refine FinalT.mk ?_ ?_ | refine FinalI.mk ?_ | refine FinalC.allA ?_ | refine ACall.scalA _ _ (szAlpha.ret _ _ ?_ ?_ ?_) rfl ?_ | refine AQCall.mkA _ _ (fun hg => szAlpha.ret _ _ ?_ ?_ ?_) rfl ?_ | refine AGCall.mkA _ _ (fun hg => szAlpha.ret _ _ ?_ ?_ ?_) rfl ?_)
    | refine AV.bool_congr ?_ | refine AV.int_congr ?_ | refine AV.str_congr ?_ | refine AV.list_congr ?_ | with_reducible rfl | refine fr1 ?_ | refine fr2 ?_ ?_
  · exact hp2
  · omega
  · rename_i h1
    rw [length_rows] at h1
    rw [Int.toNat_natCast]; exact hbi (by omega)
  · rename_i h1 h2
    rw [length_rows] at h1
    rw [Int.toNat_natCast] at h2
    have := hsz (by omega)
    unfold left at h2 ⊢
    split at h2
    · rw [if_pos (by omega)]
    · omega
  · rename_i h1 h2
    rw [length_rows] at h1
    rw [Int.toNat_natCast] at h2
    have := hsz (by omega)
    have e : left (a - ↑l.length - ↑(listSize tAlpha (l.take i))) (tAlpha.size (l.getD i default)) = a - ↑l.length - ↑(listSize tAlpha (l.take (i + 1))) := by
      unfold left at h2 ⊢
      split at h2
      · omega
      · rw [if_neg ‹_›]; omega
    refine ⟨i + 1, ⟨by omega, ?_⟩, ?_, by omega⟩
    · rw [← e]; omega
    · repeat' first
        | exact trivial | refine Weak.mk ?_ ?_ ?_ ?_ (Or.inl (Nat.le_of_ble_eq_true rfl)) | refine Weak.mk ?_ ?_ ?_ ?_ (Or.inr ⟨(by repeat' first | exact trivial | exact Nat.le_of_ble_eq_true rfl | refine And.intro ?_ ?_), (by repeat' first | exact trivial | exact Nat.le_of_ble_eq_true rfl | refine And.intro ?_ ?_)⟩) | refine Weak.mk ?_ ?_ ?_ ?_ ?_ | refine And.intro ?_ ?_ | with_reducible rfl | exact Nat.le_of_ble_eq_true rfl | refine fr1 ?_ | refine fr2 ?_ ?_ | refine AV.int_congr ?_ | refine AV.bool_congr ?_ | refine AV.str_congr ?_ | refine AV.list_congr ?_ | refine AV.bsl_congr ?_ ?_ | (apply rfl)
      · rw [Int.toNat_natCast]; exact e
      · rw [wrap64 (by omega) (by omega)]; rfl
  · rename_i h1
    rw [length_rows] at h1
    rw [List.take_of_length_le (by omega)] at hp2 ⊢
    rw [left, if_neg (by omega)]; omega
theorem eqAlphaS.big (l m : List VAlpha) (h : tAlphas.size l ≤ 1099511627775) : eqAlphaS.Ret [.list none (rows tAlpha l), .list none (rows tAlpha m)] (.val (.bool (decide (l = m)))) [] := by
  refine eqAlphaS.of rfl ?_
  rw [tAlphas_sz] at h
  repeat' first
    | contradiction | exact trivial
    | (conv => whnf
       first | refine Need.mk (fun h => h) ?_ | refine Need.mk rfl ?_ | refine Need.mk ⟨rfl, Nat.le_of_ble_eq_true rfl⟩ ?_ | refine Need.mk (Nat.le_of_ble_eq_true rfl) ?_ | refine Need.fin ?_ | refine Need.mk ?_ ?_ | refine Ix.strsF rfl ?_ | refine Ix.strs rfl ?_ ?_ | refine Cut.strs rfl ?_ ?_ | refine Ix.mapF (fun _ => rfl) ?_ | refine Ix.map (fun _ => rfl) ?_ ?_ | refine Cut.map (fun _ => rfl) ?_ ?_ | refine Fork.yes (by assumption) ?_ | refine Fork.no (by assumption) ?_ | refine Fork.decYes (by omega) ?_ | refine Fork.decNo (by omega) ?_ | refine Fork.dec (fun _ => ?_) (fun _ => ?_) | refine Fork.bne (fun _ => ?_) (fun _ => ?_) | refine Fork.beq (fun _ => ?_) (fun _ => ?_) | refine Fork.seq (fun _ => ?_) (fun _ => ?_) | refine Fork.sne (fun _ => ?_) (fun _ => ?_) | refine Fork.neg (fun _ => ?_) (fun _ => ?_) | refine Fork.mk (fun _ => ?_) (fun _ => ?_) | refine HAlt.mk ?_ ?_ | apply HJoin.mk3 | exact HEnd.mk rfl rfl rfl | refine HEnd.mk ?_ ?_ ?_ | refine Round.mk ?_ | refine NilQ.mk (fun b hb => ?_) | refine forceK_of ?_ | refine forceBx_of ?_ | refine unG_old ?_ | refine unG_gv ?_ | refine Lit.read rfl ?_ | refine FinVal.keep ?_ | refine FinAgg.keep ?_ | refine Final.mk rfl rfl | refine Final.mk ?_ rfl | refine Final.mk ?_ ?_ | refine FinalT.mk ?_ ?_ | refine FinalI.mk ?_ | refine FinalC.allA ?_)
    | refine AV.bool_congr ?_ | refine AV.int_congr ?_ | refine AV.str_congr ?_ | refine AV.list_congr ?_ | with_reducible rfl | refine fr1 ?_ | refine fr2 ?_ ?_
  · rename_i h
    rw [length_rows, length_rows] at h
    have h3 : ¬ l = m := fun e => h (by rw [e])
    simp [h3]
  rename_i h
  rw [length_rows, length_rows] at h
  have h : l.length = m.length := by omega
  repeat' first
    | contradiction | exact trivial
    | (conv => whnf
       first | refine Need.mk (fun h => h) ?_ | refine Need.mk rfl ?_ | refine Need.mk ⟨rfl, Nat.le_of_ble_eq_true rfl⟩ ?_ | refine Need.mk (Nat.le_of_ble_eq_true rfl) ?_ | refine Need.fin ?_ | refine Need.mk ?_ ?_ | refine Ix.strsF rfl ?_ | refine Ix.strs rfl ?_ ?_ | refine Cut.strs rfl ?_ ?_ | refine Ix.mapF (fun _ => rfl) ?_ | refine Ix.map (fun _ => rfl) ?_ ?_ | refine Cut.map (fun _ => rfl) ?_ ?_ | refine Fork.yes (by assumption) ?_ | refine Fork.no (by assumption) ?_ | refine Fork.decYes (by omega) ?_ | refine Fork.decNo (by omega) ?_ | refine Fork.dec (fun _ => ?_) (fun _ => ?_) | refine Fork.bne (fun _ => ?_) (fun _ => ?_) | refine Fork.beq (fun _ => ?_) (fun _ => ?_) | refine Fork.seq (fun _ => ?_) (fun _ => ?_) | refine Fork.sne (fun _ => ?_) (fun _ => ?_) | refine Fork.neg (fun _ => ?_) (fun _ => ?_) | refine Fork.mk (fun _ => ?_) (fun _ => ?_) | refine HAlt.mk ?_ ?_ | apply HJoin.mk3 | exact HEnd.mk rfl rfl rfl | refine HEnd.mk ?_ ?_ ?_ | refine Round.mk ?_ | refine NilQ.mk (fun b hb => ?_) | refine forceK_of ?_ | refine forceBx_of ?_ | refine unG_old ?_ | refine unG_gv ?_ | refine Lit.read rfl ?_ | refine FinVal.keep ?_ | refine FinAgg.keep ?_ | refine Final.mk rfl rfl | refine Final.mk ?_ rfl | refine Final.mk ?_ ?_ | refine FinalT.mk ?_ ?_ | refine FinalI.mk ?_ | refine FinalC.allA ?_)
    | refine AV.bool_congr ?_ | refine AV.int_congr ?_ | refine AV.str_congr ?_ | refine AV.list_congr ?_ | with_reducible rfl | refine fr1 ?_ | refine fr2 ?_ ?_
  refine ALoop.mk Nat (fun i => ⟨[(0, .list none (rows tAlpha l)), (1, .list none (rows tAlpha m)), (5, .val (.int .i64 i))], [], []⟩) (fun i => i ≤ l.length ∧ l.take i = m.take i) (fun i => l.length - i) ⟨0, ⟨Nat.zero_le _, rfl⟩, ?_⟩ (fun i hi => ?_)
  · repeat' first
      | exact trivial | refine Weak.mk ?_ ?_ ?_ ?_ (Or.inl (Nat.le_of_ble_eq_true rfl)) | refine Weak.mk ?_ ?_ ?_ ?_ (Or.inr ⟨(by repeat' first | exact trivial | exact Nat.le_of_ble_eq_true rfl | refine And.intro ?_ ?_), (by repeat' first | exact trivial | exact Nat.le_of_ble_eq_true rfl | refine And.intro ?_ ?_)⟩) | refine Weak.mk ?_ ?_ ?_ ?_ ?_ | refine And.intro ?_ ?_ | with_reducible rfl | exact Nat.le_of_ble_eq_true rfl | refine fr1 ?_ | refine fr2 ?_ ?_ | refine AV.int_congr ?_ | refine AV.bool_congr ?_ | refine AV.str_congr ?_ | refine AV.list_congr ?_ | refine AV.bsl_congr ?_ ?_ | (apply rfl)
  repeat' first
    | contradiction | exact trivial
    | (conv => whnf
       first | refine Need.mk (fun h => h) ?_ | refine Need.mk rfl ?_ | refine Need.mk ⟨rfl, Nat.le_of_ble_eq_true rfl⟩ ?_ | refine Need.mk (Nat.le_of_ble_eq_true rfl) ?_ | refine Need.fin ?_ | refine Need.mk ?_ ?_ | refine Ix.strsF rfl ?_ | refine Ix.strs rfl ?_ ?_ | refine Cut.strs rfl ?_ ?_ | refine Ix.mapF (fun _ => rfl) ?_ | refine Ix.map (fun _ => rfl) ?_ ?_ | refine Cut.map (fun _ => rfl) ?_ ?_ | refine Fork.yes (by assumption) ?_ | refine Fork.no (by assumption) ?_ | refine Fork.decYes (by omega) ?_ | refine Fork.decNo (by omega) ?_ | refine Fork.dec (fun _ => ?_) (fun _ => ?_) | refine Fork.bne (fun _ => ?_) (fun _ => ?_) | refine Fork.beq (fun _ => ?_) (fun _ => ?_) | refine Fork.seq (fun _ => ?_) (fun _ => ?_) | refine Fork.sne (fun _ => ?_) (fun _ => ?_) | refine Fork.neg (fun _ => ?_) (fun _ => ?_) | refine Fork.mk (fun _ => ?_) (fun _ => ?_) | refine HAlt.mk ?_ ?_ | apply HJoin.mk3 | exact HEnd.mk rfl rfl rfl | refine HEnd.mk ?_ ?_ ?_ | refine Round.mk ?_ | refine NilQ.mk (fun b hb => ?_) | refine forceK_of ?_ | refine forceBx_of ?_ | refine unG_old ?_ | refine unG_gv ?_ | refine Lit.read rfl ?_ | refine FinVal.keep ?_ | refine FinAgg.keep ?_ | refine Final.mk rfl rfl | refine Final.mk ?_ rfl | refine Final.mk ?_ ?_ | refine FinalT.mk ?_ ?_ | refine FinalI.mk ?_ | refine FinalC.allA ?_ | refine ACall.scalA _ _ (eqAlpha.big _ _ ?_) rfl ?_ | refine AQCall.mkA _ _ (fun hg => eqAlpha.big _ _ ?_) rfl ?_ | refine AGCall.mkA _ _ (fun hg => eqAlpha.big _ _ ?_) rfl ?_)
    | refine AV.bool_congr ?_ | refine AV.int_congr ?_ | refine AV.str_congr ?_ | refine AV.list_congr ?_ | with_reducible rfl | refine fr1 ?_ | refine fr2 ?_ ?_
  · rename_i h1
    rw [length_rows] at h1
    have := listSize_mem tAlpha (List.mem_of_getElem? (tAlpha_get (l := l) (i := i) (by omega)))
    rw [Int.toNat_natCast]; omega
  · rename_i h1 h2
    have h3 : ¬ l = m := fun e => of_decide_eq_false h2 (by rw [e])
    simp [h3]
  · rename_i h1 h2
    rw [length_rows] at h1
    rw [Int.toNat_natCast] at h2
    refine ⟨i + 1, ⟨by omega, ?_⟩, ?_, by omega⟩
    · rw [take_succ' default (by omega), take_succ' (l := m) default (by omega), hi.2, of_decide_eq_true h2]
    · repeat' first
        | exact trivial | refine Weak.mk ?_ ?_ ?_ ?_ (Or.inl (Nat.le_of_ble_eq_true rfl)) | refine Weak.mk ?_ ?_ ?_ ?_ (Or.inr ⟨(by repeat' first | exact trivial | exact Nat.le_of_ble_eq_true rfl | refine And.intro ?_ ?_), (by repeat' first | exact trivial | exact Nat.le_of_ble_eq_true rfl | refine And.intro ?_ ?_)⟩) | refine Weak.mk ?_ ?_ ?_ ?_ ?_ | refine And.intro ?_ ?_ | with_reducible rfl | exact Nat.le_of_ble_eq_true rfl | refine fr1 ?_ | refine fr2 ?_ ?_ | refine AV.int_congr ?_ | refine AV.bool_congr ?_ | refine AV.str_congr ?_ | refine AV.list_congr ?_ | refine AV.bsl_congr ?_ ?_ | (apply rfl)
      rw [wrap64 (by omega) (by omega)]; rfl
  · rename_i h1
    rw [length_rows] at h1
    have h2 := hi.2
    rw [List.take_of_length_le (by omega), List.take_of_length_le (by omega)] at h2
    simp [h2]
end Go.Proofs.YtfnejdkkhpjhmaaGreatDoor
namespace Go.Proofs.YtfnejdkkhpjhmaaGreatDoor
open Abs
abbrev VPair := Str × Str
instance : DecidableEq VPair := instDecidableEqProd
def tPair : Ty VPair := Ty.pair Ty.str Ty.str
theorem tPair_size (a : VPair) : tPair.size a = a.1.length + a.2.length := rfl
def tPairs : Ty (List VPair) := Ty.plain 173 tPair (fun _ => rfl) (fun _ => rfl)
theorem tPairs_sz (l : List VPair) : tPairs.size l = l.length + listSize tPair l := rfl
theorem tPair_get {l : List VPair} {i : Nat} (hi : i < l.length) : l[i]? = some (l.getD i default) := by simp [List.getD, hi]
theorem Abs.ACall.mk_Pair {C : Con} {lend : Bool} {f : Nat} {vs : List AV} {b : List ABox} {fr : Fr} {k : AV → List ABox → Fr → Prop} (ys : List AV) (a : VPair) (h : C.ret f ys (.agg (tPair.tk a 0)) []) (hv : SeesL Sees0 vs ys)
    (hk : k (.agg (tPair.tk a 0)) b fr) : ACall C lend f vs b fr k := by
  refine ACall.mkA tPair ys a h hv ?_
  show k _ b (fr ++ [])
  rw [List.append_nil]; exact hk
theorem Abs.ACall.mk_PairS {C : Con} {lend : Bool} {f : Nat} {vs : List AV} {b : List ABox} {fr : Fr} {k : AV → List ABox → Fr → Prop} (ys : List AV) (l : List VPair) (h : C.ret f ys (.list (some 0) (rows tPair l)) [(173, 2, l.length)]) (hv : SeesL Sees0 vs ys)
    (hk : k (.list (some fr.length) (rows tPair l)) b (fr ++ [(173, 2, l.length)])) : ACall C lend f vs b fr k :=
  ACall.mkV tPairs ys l (fun n => .list (some n) (rows tPair l)) (fun _ => rfl) h hv hk
theorem toPair.ret (a : VPair) (h : tPair.size a ≤ 1048576) : toPair.Ret [.agg (oldL (tPair.q a))] (.agg (tPair.tk a 0)) [] := by
  refine toPair.of rfl ?_
  rw [tPair_size] at h
  repeat' first
    | (conv => whnf
       first | refine Need.mk ⟨rfl, Nat.le_of_ble_eq_true rfl⟩ ?_ | refine Need.mk (Nat.le_of_ble_eq_true rfl) ?_ | refine FinAgg.keep ?_ | refine Final.mk rfl rfl)
  all_goals first
    | omega
    | (refine congrArg AV.agg ?_
       repeat' first
         | refine cons_congr ?_ ?_
         | refine tok_congr ?_ ?_
         | refine congrArg (tks _ _) ?_
         | rfl
       all_goals (simp [Ty.pair, Ty.str, Ty.int, Ty.bool, Nat.add_assoc]; done))
    | (simp [tPair, Ty.pair, Ty.str, Ty.int, Ty.bool, List.append_assoc, Nat.add_assoc]; done)
theorem szPair.ret (f : VPair) (a : Int) (h0 : 0 ≤ a) (ha : a ≤ 1048576) (hb : tPair.bd f) :
    szPair.Ret [.agg (oldL (tPair.q f)), .val (.int .i64 a)] (.val (.int .i64 (left a (tPair.size f)))) [] := by
  refine szPair.of rfl ?_
  have hz := tPair_size f
  obtain ⟨hb0, hb1⟩ := hb
  have hb0 : f.1.length ≤ 9223372036854775807 := hb0
  have hb1 : f.2.length ≤ 9223372036854775807 := hb1
  by_cases c1 : a < (f.1.length : Int)
  · have e0 : IntKind.i64.wrap (a - (f.1.length : Int)) = a - (f.1.length : Int) := by rw [wrap64 (by omega) (by omega)]
    repeat' first
      | (conv => whnf
         first | refine Need.mk rfl ?_ | refine Fork.decYes (by omega) ?_ | refine FinVal.keep ?_ | refine Final.mk ?_ rfl)
      | refine AV.int_congr ?_
    all_goals first
      | assumption
      | omega
      | exact left_eq (by omega)
  by_cases c2 : a < (f.1.length : Int) + (f.2.length : Int)
  · have e0 : IntKind.i64.wrap (a - (f.1.length : Int)) = a - (f.1.length : Int) := by rw [wrap64 (by omega) (by omega)]
    have e1 : IntKind.i64.wrap (IntKind.i64.wrap (a - (f.1.length : Int)) - (f.2.length : Int)) = a - (f.1.length : Int) - (f.2.length : Int) := by rw [e0, wrap64 (by omega) (by omega)]
    repeat' first
      | (conv => whnf
         first | refine Need.mk rfl ?_ | refine Fork.decYes (by omega) ?_ | refine Fork.decNo (by omega) ?_ | refine FinVal.keep ?_ | refine Final.mk ?_ rfl)
      | refine AV.int_congr ?_
    all_goals first
      | assumption
      | omega
      | exact left_eq (by omega)
  have e0 : IntKind.i64.wrap (a - (f.1.length : Int)) = a - (f.1.length : Int) := by rw [wrap64 (by omega) (by omega)]
  have e1 : IntKind.i64.wrap (IntKind.i64.wrap (a - (f.1.length : Int)) - (f.2.length : Int)) = a - (f.1.length : Int) - (f.2.length : Int) := by rw [e0, wrap64 (by omega) (by omega)]
  repeat' first
    | (conv => whnf
       first | refine Need.mk rfl ?_ | refine Fork.decNo (by omega) ?_ | refine FinVal.keep ?_ | refine Final.mk ?_ rfl)
    | refine AV.int_congr ?_
  all_goals first
    | assumption
    | omega
    | exact left_eq (by omega)
theorem eqPair.big (f g : VPair) (h : tPair.size f ≤ 1099511627775) : eqPair.Ret [.agg (oldL (tPair.q f)), .agg (oldL (tPair.q g))] (.val (.bool (decide (f = g)))) [] := by
  refine eqPair.of rfl ?_
  have hz := tPair_size f
  repeat' first
    | (conv => whnf
       first | refine Fork.sne (fun _ => ?_) (fun _ => ?_) | refine FinVal.keep ?_ | refine Final.mk ?_ rfl)
    | refine AV.bool_congr ?_
  all_goals first
    | omega
    | (simp only [tStrs_size, tInts_size] at *; omega)
    | (obtain ⟨x0, x1⟩ := f; obtain ⟨y0, y1⟩ := g; simp_all)
theorem toPairS.ret (l : List VPair) (h : tPairs.size l ≤ 1048576) : toPairS.Ret [.list none (rows tPair l)] (.list (some 0) (rows tPair l)) [(173, 2, l.length)] := by
  refine toPairS.of rfl ?_
  rw [tPairs_sz] at h
  repeat' first
    | (conv => whnf
       first | refine Need.fin ?_)
  refine ALoop.mk Nat (fun i => ⟨[(0, .list none (rows tPair l)), (3, .bsl 0 l.length), (4, .val (.int .i64 i))], [.cells (.row 173 2) (part [.str [], .str []] (rows tPair l) i)], []⟩) (fun i => i ≤ l.length) (fun i => l.length - i) ⟨0, Nat.zero_le _, ?_⟩ (fun i hi => ?_)
  · repeat' first
      | exact trivial | refine Weak.mk ?_ ?_ ?_ ?_ (Or.inl (Nat.le_of_ble_eq_true rfl)) | refine And.intro ?_ ?_ | with_reducible rfl | exact Nat.le_of_ble_eq_true rfl | refine AV.int_congr ?_ | refine AV.list_congr ?_ | refine AV.bsl_congr ?_ ?_ | (apply rfl)
    · simp
    · simp only [List.nil_append, List.length_cons, List.length_nil, List.take_succ_cons, List.take_zero]
      rw [part_made (xs := rows tPair l) (sz := 2) rfl (by decide) (by simp)]; rfl
  have hsz : ∀ c ∈ rows tPair l, c.length = 2 := oldLL_sz tPair.hq
  repeat' first
    | (conv => whnf
       first | refine Need.mk rfl ?_ | refine Need.mk (Nat.le_of_ble_eq_true rfl) ?_ | refine Need.fin ?_ | refine Need.mk ?_ ?_ | refine Ix.mapF (fun _ => rfl) ?_ | refine Fork.dec (fun _ => ?_) (fun _ => ?_) | refine Round.mk ?_ | refine ACall.mk_Pair _ _ (toPair.ret _ ?_) (by repeat' first | exact SeesL.nil | refine SeesL.cons ?_ ?_ | exact SeesB.of0 (Sees0.val _) | exact SeesB.of0 (Sees0.str _) | exact SeesB.of0 (Sees0.olds _ _) | exact SeesB.of0 (Sees0.old _) | exact SeesB.of0 (Sees0.oldagg _) | exact SeesB.of0 Sees0.nil | exact Sees0.val _ | exact Sees0.str _ | exact Sees0.olds _ _ | exact Sees0.old _ | exact Sees0.oldagg _ | exact Sees0.nil | exact SeesB.of0 (Sees0.any _) | assumption | exact sees_gv _ _ _ (by assumption) (by first | assumption | exact BoxIn.last _ _ | exact BoxIn.more (BoxIn.last _ _) _) | refine SeesB.agg ?_ | refine Sees0.agg ?_ | exact SeesB.of0 (Sees0.clo SeesL.nil SeesL.nil) | exact Sees0.clo SeesL.nil SeesL.nil | exact SeesB.of0 (Sees0.list rfl) | exact Sees0.list rfl) ?_)
  · rename_i h1
    rw [length_rows] at h1
    have := listSize_mem tPair (List.mem_of_getElem? (tPair_get (l := l) (i := i) (by omega)))
    rw [Int.toNat_natCast]; omega
  · rename_i h1
    rw [length_rows] at h1
    rw [part_len (sz := 2) rfl hsz (by rw [length_rows]; exact hi), Int.toNat_natCast, length_rows]
    exact ⟨rfl, by omega⟩
  · rename_i h1
    rw [length_rows] at h1
    refine ⟨i + 1, by omega, ?_, by omega⟩
    repeat' first
      | exact trivial | refine Weak.mk ?_ ?_ ?_ ?_ (Or.inl (Nat.le_of_ble_eq_true rfl)) | refine And.intro ?_ ?_ | with_reducible rfl | exact Nat.le_of_ble_eq_true rfl | refine AV.int_congr ?_ | refine AV.list_congr ?_ | refine AV.bsl_congr ?_ ?_
    · rw [wrap64 (by omega) (by omega)]; rfl
    · have hg : (rows tPair l)[i]? = some (oldL (tPair.q (l.getD i default))) := by rw [rows, oldLL_eq, List.getElem?_map, List.getElem?_map, tPair_get (by omega), oldL_eq]; rfl
      have := part_set (z := [.str [], .str []]) (sz := 2) rfl hsz hg
      simp only [List.set_cons_zero, List.take_succ_cons, List.take_zero, List.length_cons, List.length_nil, Int.toNat_natCast]
      exact congrArg (fun c => [ABox.cells (.row 173 2) c]) this
  · rename_i h1
    rw [length_rows] at h1
    conv => whnf
    have : i = l.length := by omega
    subst this
    have hall := part_all [.str [], .str []] (rows tPair l)
    rw [length_rows] at hall
    refine FreezeD.flat (Freeze.mk (rows tPair l) _ 173 2 rfl hall (length_rows _ _) hsz (fun c hc => ?_) ?_)
    · rw [hall, ← rowsP_tks tPair (fun _ => rfl) (fun _ => rfl)] at hc; exact tks_nr tPair l 0 c hc
    · exact Final.mk rfl rfl
theorem szPairS.ret (l : List VPair) (a : Int) (h0 : 0 ≤ a) (ha : a ≤ 1048576) (hb : tPairs.bd l) :
    szPairS.Ret [.list none (rows tPair l), .val (.int .i64 a)] (.val (.int .i64 (left a (tPairs.size l)))) [] := by
  refine szPairS.of rfl ?_
  obtain ⟨hl, hb⟩ := hb
  have hw : IntKind.i64.wrap (a - ((rows tPair l).length : Int)) = a - l.length := by rw [length_rows]; exact wrap64 (by omega) (by omega)
  have hz := tPairs_sz l
  repeat' first
    | (conv => whnf
       first | refine Need.mk rfl ?_ | refine Fork.dec (fun _ => ?_) (fun _ => ?_) | refine FinVal.keep ?_ | refine Final.mk ?_ rfl)
    | refine AV.int_congr ?_
  · rename_i h
    rw [hw] at h
    rw [left, if_pos (by omega)]
  rename_i h
  rw [hw] at h
  skip
  refine ALoop.mk Nat (fun i => ⟨[(0, .list none (rows tPair l)), (1, .val (.int .i64 (a - l.length - listSize tPair (l.take i)))), (5, .val (.int .i64 i))], [], []⟩) (fun i => i ≤ l.length ∧ (0 : Int) ≤ a - l.length - listSize tPair (l.take i)) (fun i => l.length - i) ⟨0, ⟨Nat.zero_le _, by simp [listSize]; omega⟩, ?_⟩ (fun i hi => ?_)
  · repeat' first
      | exact trivial | refine Weak.mk ?_ ?_ ?_ ?_ (Or.inl (Nat.le_of_ble_eq_true rfl)) | refine And.intro ?_ ?_ | with_reducible rfl | exact Nat.le_of_ble_eq_true rfl | refine AV.int_congr ?_ | refine AV.list_congr ?_ | (apply rfl)
    rw [hw]; simp [listSize]
  obtain ⟨hp1, hp2⟩ := hi
  have hle := listSize_take_le tPair l (i + 1)
  have hbi : i < l.length → tPair.bd (l.getD i default) := fun h => hb _ (List.mem_of_getElem? (tPair_get h))
  have hsz : i < l.length → listSize tPair (l.take (i + 1)) = listSize tPair (l.take i) + tPair.size (l.getD i default) := fun h => listSize_take_succ tPair (tPair_get h)
  repeat' first
    | (conv => whnf
       first | refine Need.mk rfl ?_ | refine Need.mk (Nat.le_of_ble_eq_true rfl) ?_ | refine Ix.mapF (fun _ => rfl) ?_ | refine Fork.dec (fun _ => ?_) (fun _ => ?_) | refine Round.mk ?_ | refine FinVal.keep ?_ | refine Final.mk ?_ rfl | refine ACall.scalA _ _ (szPair.ret _ _ ?_ ?_ ?_) rfl ?_)
    | refine AV.int_congr ?_
  · exact hp2
  · omega
  · rename_i h1
    rw [length_rows] at h1
    rw [Int.toNat_natCast]; exact hbi (by omega)
  · rename_i h1 h2
    rw [length_rows] at h1
    rw [Int.toNat_natCast] at h2
    have := hsz (by omega)
    unfold left at h2 ⊢
    split at h2
    · rw [if_pos (by omega)]
    · omega
  · rename_i h1 h2
    rw [length_rows] at h1
    rw [Int.toNat_natCast] at h2
    have := hsz (by omega)
    have e : left (a - ↑l.length - ↑(listSize tPair (l.take i))) (tPair.size (l.getD i default)) = a - ↑l.length - ↑(listSize tPair (l.take (i + 1))) := by
      unfold left at h2 ⊢
      split at h2
      · omega
      · rw [if_neg ‹_›]; omega
    refine ⟨i + 1, ⟨by omega, ?_⟩, ?_, by omega⟩
    · rw [← e]; omega
    · repeat' first
        | exact trivial | refine Weak.mk ?_ ?_ ?_ ?_ (Or.inl (Nat.le_of_ble_eq_true rfl)) | refine And.intro ?_ ?_ | with_reducible rfl | exact Nat.le_of_ble_eq_true rfl | refine AV.int_congr ?_ | refine AV.list_congr ?_ | (apply rfl)
      · rw [Int.toNat_natCast]; exact e
      · rw [wrap64 (by omega) (by omega)]; rfl
  · rename_i h1
    rw [length_rows] at h1
    rw [List.take_of_length_le (by omega)] at hp2 ⊢
    rw [left, if_neg (by omega)]; omega
theorem eqPairS.big (l m : List VPair) (h : tPairs.size l ≤ 1099511627775) : eqPairS.Ret [.list none (rows tPair l), .list none (rows tPair m)] (.val (.bool (decide (l = m)))) [] := by
  refine eqPairS.of rfl ?_
  rw [tPairs_sz] at h
  repeat' first
    | (conv => whnf
       first | refine Need.mk rfl ?_ | refine Fork.bne (fun _ => ?_) (fun _ => ?_) | refine FinVal.keep ?_ | refine Final.mk ?_ rfl)
    | refine AV.bool_congr ?_
  · rename_i h
    rw [length_rows, length_rows] at h
    have h3 : ¬ l = m := fun e => h (by rw [e])
    simp [h3]
  rename_i h
  rw [length_rows, length_rows] at h
  have h : l.length = m.length := by omega
  skip
  refine ALoop.mk Nat (fun i => ⟨[(0, .list none (rows tPair l)), (1, .list none (rows tPair m)), (5, .val (.int .i64 i))], [], []⟩) (fun i => i ≤ l.length ∧ l.take i = m.take i) (fun i => l.length - i) ⟨0, ⟨Nat.zero_le _, rfl⟩, ?_⟩ (fun i hi => ?_)
  · repeat' first
      | exact trivial | refine Weak.mk ?_ ?_ ?_ ?_ (Or.inl (Nat.le_of_ble_eq_true rfl)) | refine And.intro ?_ ?_ | with_reducible rfl | exact Nat.le_of_ble_eq_true rfl | refine AV.int_congr ?_ | refine AV.list_congr ?_ | (apply rfl)
  repeat' first
    | (conv => whnf
       first | refine Need.mk rfl ?_ | refine Need.mk (Nat.le_of_ble_eq_true rfl) ?_ | refine Ix.mapF (fun _ => rfl) ?_ | refine Fork.dec (fun _ => ?_) (fun _ => ?_) | refine Fork.neg (fun _ => ?_) (fun _ => ?_) | refine Round.mk ?_ | refine FinVal.keep ?_ | refine Final.mk ?_ rfl | refine AQCall.mkA _ _ (fun hg => eqPair.big _ _ ?_) rfl ?_)
    | refine AV.bool_congr ?_
  · rename_i h1
    rw [length_rows] at h1
    have := listSize_mem tPair (List.mem_of_getElem? (tPair_get (l := l) (i := i) (by omega)))
    rw [Int.toNat_natCast]; omega
  · rename_i h1 h2
    have h3 : ¬ l = m := fun e => of_decide_eq_false h2 (by rw [e])
    simp [h3]
  · rename_i h1 h2
    rw [length_rows] at h1
    rw [Int.toNat_natCast] at h2
    refine ⟨i + 1, ⟨by omega, ?_⟩, ?_, by omega⟩
    · rw [take_succ' default (by omega), take_succ' (l := m) default (by omega), hi.2, of_decide_eq_true h2]
    · repeat' first
        | exact trivial | refine Weak.mk ?_ ?_ ?_ ?_ (Or.inl (Nat.le_of_ble_eq_true rfl)) | refine And.intro ?_ ?_ | with_reducible rfl | exact Nat.le_of_ble_eq_true rfl | refine AV.int_congr ?_ | refine AV.list_congr ?_ | (apply rfl)
      rw [wrap64 (by omega) (by omega)]; rfl
  · rename_i h1
    rw [length_rows] at h1
    have h2 := hi.2
    rw [List.take_of_length_le (by omega), List.take_of_length_le (by omega)] at h2
    simp [h2]
end Go.Proofs.YtfnejdkkhpjhmaaGreatDoor
