/-
  What stands below some laws' proofs, part 1: contracts of functions, by an evaluator.
-/
import Derived.Test.YtfnejdkkhpjhmaaK5
import Derived.Laws.RangeAny
import Derived.Sort.Row
import Derived.Sort.Grow
import Derived.Shelf.Slices.In.SortNone
import Derived.Shelf.Slices.CompactS
import Derived.Shelf.Sort.Plain
import Derived.Test.YtfnejdkkhpjhmaaProg
import Derived.Lib.SlicesCompact
import Derived.Sort.Statements
import Derived.Maps.Own
import Derived.ProofKit
import Derived.Deep.Slices
import Derived.Shelf.GgSortFunc.InsertionK
import Derived.Shelf.SlicesQ.Reverse
import Derived.Ground.SlgnProg
import Derived.Test.YtfnejdkkhpjhmaaRows
namespace Go.Proofs.Ytfnejdkkhpjhmaa
open Abs
def eqAction.code : ACode := (.seq (.region false [s 2 (.box (t 0)), s 3 (.box (t 1)), s 4 (.mv (.const (.bool false)))]) (.seq (.seq (.region false [s 5 (.fadr 0 (t 2)), s 6 (.load false 1 (t 5)), s 7 (.fadr 0 (t 3)), s 8 (.load false 1 (t 7)), s 9 (.bin .neq (t 6) (t 8))]) (.cond (t 9) (.seq (.region false [s 4 (.mv (.const (.bool false)))]) .ret) .skip)) (.seq (.seq (.region false [s 10 (.fadr 1 (t 2)), s 11 (.load true 2 (t 10)), s 12 (.fadr 1 (t 3)), s 13 (.load true 2 (t 12)), s 14 (.call 99 [(t 11), (t 13)]), s 15 (.not (t 14))]) (.cond (t 15) (.seq (.region false [s 4 (.mv (.const (.bool false)))]) .ret) .skip)) (.seq (.region false [s 4 (.mv (.const (.bool true)))]) .ret))))
def eqAction.keep : List Nat := [0, 1, 2, 3, 4]
def eqAction.res : List RRes := [.tmp 4]
theorem eqAction.of {mo : Bool} {args : List AV} {r : AV} {frs : Fr} (hn : Nat.ble args.length Try.f147.ntmps = true) (h : aCode (Kn mo Try.prog) eqAction.keep 0 eqAction.code (doneK eqAction.res r frs) ⟨argEnv 0 args, [], []⟩) : Abs.Ret mo Try.prog 147 args r frs :=
  Abs.Ret.of_ir Try.func147 rfl (by kernel_rfl) (Nat.le_of_ble_eq_true hn) (by kernel_rfl) (by kernel_rfl) h
abbrev eqAction.Ret (args : List AV) (r : AV) (frs : Fr) : Prop := Abs.Ret true Try.prog 147 args r frs
def eqActionS.code : ACode := (.seq (.region false [s 4 (.mv (.const (.bool false)))]) (.seq (.seq (.region false [s 6 (.mv (t 0)), s 7 (.len false (t 6)), s 8 (.mv (t 1)), s 9 (.len false (t 8)), s 10 (.bin .neq (t 7) (t 9))]) (.cond (t 10) (.seq (.region false [s 4 (.mv (.const (.bool false)))]) .ret) .skip)) (.seq (.seq (.region false [s 5 (.mv (.const (.int .i64 0)))]) (.block 0 (.loop (.seq (.seq (.region false [s 11 (.mv (t 5)), s 12 (.mv (t 0)), s 13 (.len false (t 12)), s 14 (.bin .lss (t 11) (t 13))]) (.cond (t 14) .skip (.exit 0))) (.seq (.block 1 (.seq (.region true [s 17 (.mv (t 0)), s 18 (.mv (t 5)), s 19 (.iadr 3 (t 17) (t 18)), s 20 (.load true 3 (t 19)), s 21 (.mv (t 1)), s 22 (.mv (t 5)), s 23 (.iadr 3 (t 21) (t 22)), s 24 (.load true 3 (t 23)), s 25 (.call 147 [(t 20), (t 24)]), s 26 (.not (t 25))]) (.cond (t 26) (.seq (.region false [s 4 (.mv (.const (.bool false)))]) .ret) .skip))) (.region false [s 15 (.mv (t 5)), s 16 (.bin .add (t 15) (.const (.int .i64 1))), s 5 (.mv (t 16))])))))) (.seq (.region false [s 4 (.mv (.const (.bool true)))]) .ret))))
def eqActionS.keep : List Nat := [0, 1, 4, 5]
def eqActionS.res : List RRes := [.tmp 4]
theorem eqActionS.of {mo : Bool} {args : List AV} {r : AV} {frs : Fr} (hn : Nat.ble args.length Try.f136.ntmps = true) (h : aCode (Kn mo Try.prog) eqActionS.keep 0 eqActionS.code (doneK eqActionS.res r frs) ⟨argEnv 0 args, [], []⟩) : Abs.Ret mo Try.prog 136 args r frs :=
  Abs.Ret.of_ir Try.func136 rfl (by kernel_rfl) (Nat.le_of_ble_eq_true hn) (by kernel_rfl) (by kernel_rfl) h
abbrev eqActionS.Ret (args : List AV) (r : AV) (frs : Fr) : Prop := Abs.Ret true Try.prog 136 args r frs
def eqAlpha.code : ACode := (.seq (.region false [s 2 (.box (t 0)), s 3 (.box (t 1)), s 4 (.mv (.const (.bool false)))]) (.seq (.seq (.region false [s 5 (.fadr 0 (t 2)), s 6 (.load true 2 (t 5)), s 7 (.fadr 0 (t 3)), s 8 (.load true 2 (t 7)), s 9 (.call 99 [(t 6), (t 8)]), s 10 (.not (t 9))]) (.cond (t 10) (.seq (.region false [s 4 (.mv (.const (.bool false)))]) .ret) .skip)) (.seq (.seq (.region false [s 11 (.fadr 2 (t 2)), s 12 (.load false 1 (t 11)), s 13 (.fadr 2 (t 3)), s 14 (.load false 1 (t 13)), s 15 (.call 63 [(t 12), (t 14)]), s 16 (.not (t 15))]) (.cond (t 16) (.seq (.region false [s 4 (.mv (.const (.bool false)))]) .ret) .skip)) (.seq (.region false [s 4 (.mv (.const (.bool true)))]) .ret))))
def eqAlpha.keep : List Nat := [0, 1, 2, 3, 4]
def eqAlpha.res : List RRes := [.tmp 4]
theorem eqAlpha.of {mo : Bool} {args : List AV} {r : AV} {frs : Fr} (hn : Nat.ble args.length Try.f101.ntmps = true) (h : aCode (Kn mo Try.prog) eqAlpha.keep 0 eqAlpha.code (doneK eqAlpha.res r frs) ⟨argEnv 0 args, [], []⟩) : Abs.Ret mo Try.prog 101 args r frs :=
  Abs.Ret.of_ir Try.func101 rfl (by kernel_rfl) (Nat.le_of_ble_eq_true hn) (by kernel_rfl) (by kernel_rfl) h
abbrev eqAlpha.Ret (args : List AV) (r : AV) (frs : Fr) : Prop := Abs.Ret true Try.prog 101 args r frs
def eqAlphaS.code : ACode := (.seq (.region false [s 4 (.mv (.const (.bool false)))]) (.seq (.seq (.region false [s 6 (.mv (t 0)), s 7 (.len false (t 6)), s 8 (.mv (t 1)), s 9 (.len false (t 8)), s 10 (.bin .neq (t 7) (t 9))]) (.cond (t 10) (.seq (.region false [s 4 (.mv (.const (.bool false)))]) .ret) .skip)) (.seq (.seq (.region false [s 5 (.mv (.const (.int .i64 0)))]) (.block 0 (.loop (.seq (.seq (.region false [s 11 (.mv (t 5)), s 12 (.mv (t 0)), s 13 (.len false (t 12)), s 14 (.bin .lss (t 11) (t 13))]) (.cond (t 14) .skip (.exit 0))) (.seq (.block 1 (.seq (.region true [s 17 (.mv (t 0)), s 18 (.mv (t 5)), s 19 (.iadr 3 (t 17) (t 18)), s 20 (.load true 3 (t 19)), s 21 (.mv (t 1)), s 22 (.mv (t 5)), s 23 (.iadr 3 (t 21) (t 22)), s 24 (.load true 3 (t 23)), s 25 (.call 101 [(t 20), (t 24)]), s 26 (.not (t 25))]) (.cond (t 26) (.seq (.region false [s 4 (.mv (.const (.bool false)))]) .ret) .skip))) (.region false [s 15 (.mv (t 5)), s 16 (.bin .add (t 15) (.const (.int .i64 1))), s 5 (.mv (t 16))])))))) (.seq (.region false [s 4 (.mv (.const (.bool true)))]) .ret))))
def eqAlphaS.keep : List Nat := [0, 1, 4, 5]
def eqAlphaS.res : List RRes := [.tmp 4]
theorem eqAlphaS.of {mo : Bool} {args : List AV} {r : AV} {frs : Fr} (hn : Nat.ble args.length Try.f61.ntmps = true) (h : aCode (Kn mo Try.prog) eqAlphaS.keep 0 eqAlphaS.code (doneK eqAlphaS.res r frs) ⟨argEnv 0 args, [], []⟩) : Abs.Ret mo Try.prog 61 args r frs :=
  Abs.Ret.of_ir Try.func61 rfl (by kernel_rfl) (Nat.le_of_ble_eq_true hn) (by kernel_rfl) (by kernel_rfl) h
abbrev eqAlphaS.Ret (args : List AV) (r : AV) (frs : Fr) : Prop := Abs.Ret true Try.prog 61 args r frs
def eqCond.code : ACode := (.seq (.region false [s 2 (.box (t 0)), s 3 (.box (t 1)), s 4 (.mv (.const (.bool false)))]) (.seq (.seq (.region false [s 5 (.fadr 0 (t 2)), s 6 (.load false 1 (t 5)), s 7 (.fadr 0 (t 3)), s 8 (.load false 1 (t 7)), s 9 (.bin .neq (t 6) (t 8))]) (.cond (t 9) (.seq (.region false [s 4 (.mv (.const (.bool false)))]) .ret) .skip)) (.seq (.seq (.region false [s 10 (.fadr 1 (t 2)), s 11 (.load true 2 (t 10)), s 12 (.fadr 1 (t 3)), s 13 (.load true 2 (t 12)), s 14 (.call 99 [(t 11), (t 13)]), s 15 (.not (t 14))]) (.cond (t 15) (.seq (.region false [s 4 (.mv (.const (.bool false)))]) .ret) .skip)) (.seq (.seq (.region false [s 16 (.fadr 3 (t 2)), s 17 (.load false 1 (t 16)), s 18 (.fadr 3 (t 3)), s 19 (.load false 1 (t 18)), s 20 (.bin .neq (t 17) (t 19))]) (.cond (t 20) (.seq (.region false [s 4 (.mv (.const (.bool false)))]) .ret) .skip)) (.seq (.seq (.region false [s 21 (.fadr 4 (t 2)), s 22 (.load false 1 (t 21)), s 23 (.fadr 4 (t 3)), s 24 (.load false 1 (t 23)), s 25 (.bin .neq (t 22) (t 24))]) (.cond (t 25) (.seq (.region false [s 4 (.mv (.const (.bool false)))]) .ret) .skip)) (.seq (.region false [s 4 (.mv (.const (.bool true)))]) .ret))))))
def eqCond.keep : List Nat := [0, 1, 2, 3, 4]
def eqCond.res : List RRes := [.tmp 4]
theorem eqCond.of {mo : Bool} {args : List AV} {r : AV} {frs : Fr} (hn : Nat.ble args.length Try.f58.ntmps = true) (h : aCode (Kn mo Try.prog) eqCond.keep 0 eqCond.code (doneK eqCond.res r frs) ⟨argEnv 0 args, [], []⟩) : Abs.Ret mo Try.prog 58 args r frs :=
  Abs.Ret.of_ir Try.func58 rfl (by kernel_rfl) (Nat.le_of_ble_eq_true hn) (by kernel_rfl) (by kernel_rfl) h
abbrev eqCond.Ret (args : List AV) (r : AV) (frs : Fr) : Prop := Abs.Ret true Try.prog 58 args r frs
def eqCondS.code : ACode := (.seq (.region false [s 4 (.mv (.const (.bool false)))]) (.seq (.seq (.region false [s 6 (.mv (t 0)), s 7 (.len false (t 6)), s 8 (.mv (t 1)), s 9 (.len false (t 8)), s 10 (.bin .neq (t 7) (t 9))]) (.cond (t 10) (.seq (.region false [s 4 (.mv (.const (.bool false)))]) .ret) .skip)) (.seq (.seq (.region false [s 5 (.mv (.const (.int .i64 0)))]) (.block 0 (.loop (.seq (.seq (.region false [s 11 (.mv (t 5)), s 12 (.mv (t 0)), s 13 (.len false (t 12)), s 14 (.bin .lss (t 11) (t 13))]) (.cond (t 14) .skip (.exit 0))) (.seq (.block 1 (.seq (.region true [s 17 (.mv (t 0)), s 18 (.mv (t 5)), s 19 (.iadr 5 (t 17) (t 18)), s 20 (.load true 5 (t 19)), s 21 (.mv (t 1)), s 22 (.mv (t 5)), s 23 (.iadr 5 (t 21) (t 22)), s 24 (.load true 5 (t 23)), s 25 (.call 58 [(t 20), (t 24)]), s 26 (.not (t 25))]) (.cond (t 26) (.seq (.region false [s 4 (.mv (.const (.bool false)))]) .ret) .skip))) (.region false [s 15 (.mv (t 5)), s 16 (.bin .add (t 15) (.const (.int .i64 1))), s 5 (.mv (t 16))])))))) (.seq (.region false [s 4 (.mv (.const (.bool true)))]) .ret))))
def eqCondS.keep : List Nat := [0, 1, 4, 5]
def eqCondS.res : List RRes := [.tmp 4]
theorem eqCondS.of {mo : Bool} {args : List AV} {r : AV} {frs : Fr} (hn : Nat.ble args.length Try.f18.ntmps = true) (h : aCode (Kn mo Try.prog) eqCondS.keep 0 eqCondS.code (doneK eqCondS.res r frs) ⟨argEnv 0 args, [], []⟩) : Abs.Ret mo Try.prog 18 args r frs :=
  Abs.Ret.of_ir Try.func18 rfl (by kernel_rfl) (Nat.le_of_ble_eq_true hn) (by kernel_rfl) (by kernel_rfl) h
abbrev eqCondS.Ret (args : List AV) (r : AV) (frs : Fr) : Prop := Abs.Ret true Try.prog 18 args r frs
def eqFact.code : ACode := (.seq (.region false [s 2 (.box (t 0)), s 3 (.box (t 1)), s 4 (.mv (.const (.bool false)))]) (.seq (.seq (.region false [s 5 (.fadr 0 (t 2)), s 6 (.load false 1 (t 5)), s 7 (.fadr 0 (t 3)), s 8 (.load false 1 (t 7)), s 9 (.bin .neq (t 6) (t 8))]) (.cond (t 9) (.seq (.region false [s 4 (.mv (.const (.bool false)))]) .ret) .skip)) (.seq (.seq (.region false [s 10 (.fadr 1 (t 2)), s 11 (.load false 1 (t 10)), s 12 (.fadr 1 (t 3)), s 13 (.load false 1 (t 12)), s 14 (.call 135 [(t 11), (t 13)]), s 15 (.not (t 14))]) (.cond (t 15) (.seq (.region false [s 4 (.mv (.const (.bool false)))]) .ret) .skip)) (.seq (.region false [s 4 (.mv (.const (.bool true)))]) .ret))))
def eqFact.keep : List Nat := [0, 1, 2, 3, 4]
def eqFact.res : List RRes := [.tmp 4]
theorem eqFact.of {mo : Bool} {args : List AV} {r : AV} {frs : Fr} (hn : Nat.ble args.length Try.f103.ntmps = true) (h : aCode (Kn mo Try.prog) eqFact.keep 0 eqFact.code (doneK eqFact.res r frs) ⟨argEnv 0 args, [], []⟩) : Abs.Ret mo Try.prog 103 args r frs :=
  Abs.Ret.of_ir Try.func103 rfl (by kernel_rfl) (Nat.le_of_ble_eq_true hn) (by kernel_rfl) (by kernel_rfl) h
abbrev eqFact.Ret (args : List AV) (r : AV) (frs : Fr) : Prop := Abs.Ret true Try.prog 103 args r frs
def eqFactS.code : ACode := (.seq (.region false [s 4 (.mv (.const (.bool false)))]) (.seq (.seq (.region false [s 6 (.mv (t 0)), s 7 (.len false (t 6)), s 8 (.mv (t 1)), s 9 (.len false (t 8)), s 10 (.bin .neq (t 7) (t 9))]) (.cond (t 10) (.seq (.region false [s 4 (.mv (.const (.bool false)))]) .ret) .skip)) (.seq (.seq (.region false [s 5 (.mv (.const (.int .i64 0)))]) (.block 0 (.loop (.seq (.seq (.region false [s 11 (.mv (t 5)), s 12 (.mv (t 0)), s 13 (.len false (t 12)), s 14 (.bin .lss (t 11) (t 13))]) (.cond (t 14) .skip (.exit 0))) (.seq (.block 1 (.seq (.region true [s 17 (.mv (t 0)), s 18 (.mv (t 5)), s 19 (.iadr 2 (t 17) (t 18)), s 20 (.load true 2 (t 19)), s 21 (.mv (t 1)), s 22 (.mv (t 5)), s 23 (.iadr 2 (t 21) (t 22)), s 24 (.load true 2 (t 23)), s 25 (.call 103 [(t 20), (t 24)]), s 26 (.not (t 25))]) (.cond (t 26) (.seq (.region false [s 4 (.mv (.const (.bool false)))]) .ret) .skip))) (.region false [s 15 (.mv (t 5)), s 16 (.bin .add (t 15) (.const (.int .i64 1))), s 5 (.mv (t 16))])))))) (.seq (.region false [s 4 (.mv (.const (.bool true)))]) .ret))))
def eqFactS.keep : List Nat := [0, 1, 4, 5]
def eqFactS.res : List RRes := [.tmp 4]
theorem eqFactS.of {mo : Bool} {args : List AV} {r : AV} {frs : Fr} (hn : Nat.ble args.length Try.f63.ntmps = true) (h : aCode (Kn mo Try.prog) eqFactS.keep 0 eqFactS.code (doneK eqFactS.res r frs) ⟨argEnv 0 args, [], []⟩) : Abs.Ret mo Try.prog 63 args r frs :=
  Abs.Ret.of_ir Try.func63 rfl (by kernel_rfl) (Nat.le_of_ble_eq_true hn) (by kernel_rfl) (by kernel_rfl) h
abbrev eqFactS.Ret (args : List AV) (r : AV) (frs : Fr) : Prop := Abs.Ret true Try.prog 63 args r frs
def eqIntS.code : ACode := (.seq (.region false [s 4 (.mv (.const (.bool false)))]) (.seq (.seq (.region false [s 6 (.mv (t 0)), s 7 (.len false (t 6)), s 8 (.mv (t 1)), s 9 (.len false (t 8)), s 10 (.bin .neq (t 7) (t 9))]) (.cond (t 10) (.seq (.region false [s 4 (.mv (.const (.bool false)))]) .ret) .skip)) (.seq (.seq (.region false [s 5 (.mv (.const (.int .i64 0)))]) (.block 0 (.loop (.seq (.seq (.region false [s 11 (.mv (t 5)), s 12 (.mv (t 0)), s 13 (.len false (t 12)), s 14 (.bin .lss (t 11) (t 13))]) (.cond (t 14) .skip (.exit 0))) (.seq (.block 1 (.seq (.region true [s 17 (.mv (t 0)), s 18 (.mv (t 5)), s 19 (.iadr 1 (t 17) (t 18)), s 20 (.load false 1 (t 19)), s 21 (.mv (t 1)), s 22 (.mv (t 5)), s 23 (.iadr 1 (t 21) (t 22)), s 24 (.load false 1 (t 23)), s 25 (.bin .neq (t 20) (t 24))]) (.cond (t 25) (.seq (.region false [s 4 (.mv (.const (.bool false)))]) .ret) .skip))) (.region false [s 15 (.mv (t 5)), s 16 (.bin .add (t 15) (.const (.int .i64 1))), s 5 (.mv (t 16))])))))) (.seq (.region false [s 4 (.mv (.const (.bool true)))]) .ret))))
def eqIntS.keep : List Nat := [0, 1, 4, 5]
def eqIntS.res : List RRes := [.tmp 4]
theorem eqIntS.of {mo : Bool} {args : List AV} {r : AV} {frs : Fr} (hn : Nat.ble args.length Try.f60.ntmps = true) (h : aCode (Kn mo Try.prog) eqIntS.keep 0 eqIntS.code (doneK eqIntS.res r frs) ⟨argEnv 0 args, [], []⟩) : Abs.Ret mo Try.prog 60 args r frs :=
  Abs.Ret.of_ir Try.func60 rfl (by kernel_rfl) (Nat.le_of_ble_eq_true hn) (by kernel_rfl) (by kernel_rfl) h
abbrev eqIntS.Ret (args : List AV) (r : AV) (frs : Fr) : Prop := Abs.Ret true Try.prog 60 args r frs
def eqNetwork.code : ACode := (.seq (.region false [s 2 (.box (t 0)), s 3 (.box (t 1)), s 4 (.mv (.const (.bool false)))]) (.seq (.seq (.region false [s 5 (.fadr 0 (t 2)), s 6 (.load false 1 (t 5)), s 7 (.fadr 0 (t 3)), s 8 (.load false 1 (t 7)), s 9 (.call 59 [(t 6), (t 8)]), s 10 (.not (t 9))]) (.cond (t 10) (.seq (.region false [s 4 (.mv (.const (.bool false)))]) .ret) .skip)) (.seq (.seq (.region false [s 11 (.fadr 1 (t 2)), s 12 (.load false 1 (t 11)), s 13 (.fadr 1 (t 3)), s 14 (.load false 1 (t 13)), s 15 (.call 60 [(t 12), (t 14)]), s 16 (.not (t 15))]) (.cond (t 16) (.seq (.region false [s 4 (.mv (.const (.bool false)))]) .ret) .skip)) (.seq (.seq (.region false [s 17 (.fadr 2 (t 2)), s 18 (.load false 1 (t 17)), s 19 (.fadr 2 (t 3)), s 20 (.load false 1 (t 19)), s 21 (.call 61 [(t 18), (t 20)]), s 22 (.not (t 21))]) (.cond (t 22) (.seq (.region false [s 4 (.mv (.const (.bool false)))]) .ret) .skip)) (.seq (.seq (.region false [s 23 (.fadr 3 (t 2)), s 24 (.load false 1 (t 23)), s 25 (.fadr 3 (t 3)), s 26 (.load false 1 (t 25)), s 27 (.call 62 [(t 24), (t 26)]), s 28 (.not (t 27))]) (.cond (t 28) (.seq (.region false [s 4 (.mv (.const (.bool false)))]) .ret) .skip)) (.seq (.seq (.region false [s 29 (.fadr 4 (t 2)), s 30 (.load false 1 (t 29)), s 31 (.fadr 4 (t 3)), s 32 (.load false 1 (t 31)), s 33 (.call 63 [(t 30), (t 32)]), s 34 (.not (t 33))]) (.cond (t 34) (.seq (.region false [s 4 (.mv (.const (.bool false)))]) .ret) .skip)) (.seq (.seq (.region false [s 35 (.fadr 5 (t 2)), s 36 (.load false 1 (t 35)), s 37 (.fadr 5 (t 3)), s 38 (.load false 1 (t 37)), s 39 (.bin .neq (t 36) (t 38))]) (.cond (t 39) (.seq (.region false [s 4 (.mv (.const (.bool false)))]) .ret) .skip)) (.seq (.region false [s 4 (.mv (.const (.bool true)))]) .ret))))))))
def eqNetwork.keep : List Nat := [0, 1, 2, 3, 4]
def eqNetwork.res : List RRes := [.tmp 4]
theorem eqNetwork.of {mo : Bool} {args : List AV} {r : AV} {frs : Fr} (hn : Nat.ble args.length Try.f19.ntmps = true) (h : aCode (Kn mo Try.prog) eqNetwork.keep 0 eqNetwork.code (doneK eqNetwork.res r frs) ⟨argEnv 0 args, [], []⟩) : Abs.Ret mo Try.prog 19 args r frs :=
  Abs.Ret.of_ir Try.func19 rfl (by kernel_rfl) (Nat.le_of_ble_eq_true hn) (by kernel_rfl) (by kernel_rfl) h
abbrev eqNetwork.Ret (args : List AV) (r : AV) (frs : Fr) : Prop := Abs.Ret true Try.prog 19 args r frs
def eqNode.code : ACode := (.seq (.region false [s 2 (.box (t 0)), s 3 (.box (t 1)), s 4 (.mv (.const (.bool false)))]) (.seq (.seq (.region false [s 5 (.fadr 0 (t 2)), s 6 (.load false 1 (t 5)), s 7 (.fadr 0 (t 3)), s 8 (.load false 1 (t 7)), s 9 (.bin .neq (t 6) (t 8))]) (.cond (t 9) (.seq (.region false [s 4 (.mv (.const (.bool false)))]) .ret) .skip)) (.seq (.seq (.region false [s 10 (.fadr 1 (t 2)), s 11 (.load true 5 (t 10)), s 12 (.fadr 1 (t 3)), s 13 (.load true 5 (t 12)), s 14 (.call 58 [(t 11), (t 13)]), s 15 (.not (t 14))]) (.cond (t 15) (.seq (.region false [s 4 (.mv (.const (.bool false)))]) .ret) .skip)) (.seq (.seq (.region false [s 16 (.fadr 6 (t 2)), s 17 (.load false 1 (t 16)), s 18 (.fadr 6 (t 3)), s 19 (.load false 1 (t 18)), s 20 (.bin .neq (t 17) (t 19))]) (.cond (t 20) (.seq (.region false [s 4 (.mv (.const (.bool false)))]) .ret) .skip)) (.seq (.seq (.region false [s 21 (.fadr 7 (t 2)), s 22 (.load false 1 (t 21)), s 23 (.fadr 7 (t 3)), s 24 (.load false 1 (t 23)), s 25 (.call 137 [(t 22), (t 24)]), s 26 (.not (t 25))]) (.cond (t 26) (.seq (.region false [s 4 (.mv (.const (.bool false)))]) .ret) .skip)) (.seq (.region false [s 4 (.mv (.const (.bool true)))]) .ret))))))
def eqNode.keep : List Nat := [0, 1, 2, 3, 4]
def eqNode.res : List RRes := [.tmp 4]
theorem eqNode.of {mo : Bool} {args : List AV} {r : AV} {frs : Fr} (hn : Nat.ble args.length Try.f102.ntmps = true) (h : aCode (Kn mo Try.prog) eqNode.keep 0 eqNode.code (doneK eqNode.res r frs) ⟨argEnv 0 args, [], []⟩) : Abs.Ret mo Try.prog 102 args r frs :=
  Abs.Ret.of_ir Try.func102 rfl (by kernel_rfl) (Nat.le_of_ble_eq_true hn) (by kernel_rfl) (by kernel_rfl) h
abbrev eqNode.Ret (args : List AV) (r : AV) (frs : Fr) : Prop := Abs.Ret true Try.prog 102 args r frs
def eqNodeS.code : ACode := (.seq (.region false [s 4 (.mv (.const (.bool false)))]) (.seq (.seq (.region false [s 6 (.mv (t 0)), s 7 (.len false (t 6)), s 8 (.mv (t 1)), s 9 (.len false (t 8)), s 10 (.bin .neq (t 7) (t 9))]) (.cond (t 10) (.seq (.region false [s 4 (.mv (.const (.bool false)))]) .ret) .skip)) (.seq (.seq (.region false [s 5 (.mv (.const (.int .i64 0)))]) (.block 0 (.loop (.seq (.seq (.region false [s 11 (.mv (t 5)), s 12 (.mv (t 0)), s 13 (.len false (t 12)), s 14 (.bin .lss (t 11) (t 13))]) (.cond (t 14) .skip (.exit 0))) (.seq (.block 1 (.seq (.region true [s 17 (.mv (t 0)), s 18 (.mv (t 5)), s 19 (.iadr 8 (t 17) (t 18)), s 20 (.load true 8 (t 19)), s 21 (.mv (t 1)), s 22 (.mv (t 5)), s 23 (.iadr 8 (t 21) (t 22)), s 24 (.load true 8 (t 23)), s 25 (.call 102 [(t 20), (t 24)]), s 26 (.not (t 25))]) (.cond (t 26) (.seq (.region false [s 4 (.mv (.const (.bool false)))]) .ret) .skip))) (.region false [s 15 (.mv (t 5)), s 16 (.bin .add (t 15) (.const (.int .i64 1))), s 5 (.mv (t 16))])))))) (.seq (.region false [s 4 (.mv (.const (.bool true)))]) .ret))))
def eqNodeS.keep : List Nat := [0, 1, 4, 5]
def eqNodeS.res : List RRes := [.tmp 4]
theorem eqNodeS.of {mo : Bool} {args : List AV} {r : AV} {frs : Fr} (hn : Nat.ble args.length Try.f62.ntmps = true) (h : aCode (Kn mo Try.prog) eqNodeS.keep 0 eqNodeS.code (doneK eqNodeS.res r frs) ⟨argEnv 0 args, [], []⟩) : Abs.Ret mo Try.prog 62 args r frs :=
  Abs.Ret.of_ir Try.func62 rfl (by kernel_rfl) (Nat.le_of_ble_eq_true hn) (by kernel_rfl) (by kernel_rfl) h
abbrev eqNodeS.Ret (args : List AV) (r : AV) (frs : Fr) : Prop := Abs.Ret true Try.prog 62 args r frs
def eqPair.code : ACode := (.seq (.region false [s 2 (.box (t 0)), s 3 (.box (t 1)), s 4 (.mv (.const (.bool false)))]) (.seq (.seq (.region false [s 5 (.fadr 0 (t 2)), s 6 (.load false 1 (t 5)), s 7 (.fadr 0 (t 3)), s 8 (.load false 1 (t 7)), s 9 (.bin .neq (t 6) (t 8))]) (.cond (t 9) (.seq (.region false [s 4 (.mv (.const (.bool false)))]) .ret) .skip)) (.seq (.seq (.region false [s 10 (.fadr 1 (t 2)), s 11 (.load false 1 (t 10)), s 12 (.fadr 1 (t 3)), s 13 (.load false 1 (t 12)), s 14 (.bin .neq (t 11) (t 13))]) (.cond (t 14) (.seq (.region false [s 4 (.mv (.const (.bool false)))]) .ret) .skip)) (.seq (.region false [s 4 (.mv (.const (.bool true)))]) .ret))))
def eqPair.keep : List Nat := [0, 1, 2, 3, 4]
def eqPair.res : List RRes := [.tmp 4]
theorem eqPair.of {mo : Bool} {args : List AV} {r : AV} {frs : Fr} (hn : Nat.ble args.length Try.f42.ntmps = true) (h : aCode (Kn mo Try.prog) eqPair.keep 0 eqPair.code (doneK eqPair.res r frs) ⟨argEnv 0 args, [], []⟩) : Abs.Ret mo Try.prog 42 args r frs :=
  Abs.Ret.of_ir Try.func42 rfl (by kernel_rfl) (Nat.le_of_ble_eq_true hn) (by kernel_rfl) (by kernel_rfl) h
abbrev eqPair.Ret (args : List AV) (r : AV) (frs : Fr) : Prop := Abs.Ret true Try.prog 42 args r frs
def eqPairS.code : ACode := (.seq (.region false [s 4 (.mv (.const (.bool false)))]) (.seq (.seq (.region false [s 6 (.mv (t 0)), s 7 (.len false (t 6)), s 8 (.mv (t 1)), s 9 (.len false (t 8)), s 10 (.bin .neq (t 7) (t 9))]) (.cond (t 10) (.seq (.region false [s 4 (.mv (.const (.bool false)))]) .ret) .skip)) (.seq (.seq (.region false [s 5 (.mv (.const (.int .i64 0)))]) (.block 0 (.loop (.seq (.seq (.region false [s 11 (.mv (t 5)), s 12 (.mv (t 0)), s 13 (.len false (t 12)), s 14 (.bin .lss (t 11) (t 13))]) (.cond (t 14) .skip (.exit 0))) (.seq (.block 1 (.seq (.region true [s 17 (.mv (t 0)), s 18 (.mv (t 5)), s 19 (.iadr 2 (t 17) (t 18)), s 20 (.load true 2 (t 19)), s 21 (.mv (t 1)), s 22 (.mv (t 5)), s 23 (.iadr 2 (t 21) (t 22)), s 24 (.load true 2 (t 23)), s 25 (.call 42 [(t 20), (t 24)]), s 26 (.not (t 25))]) (.cond (t 26) (.seq (.region false [s 4 (.mv (.const (.bool false)))]) .ret) .skip))) (.region false [s 15 (.mv (t 5)), s 16 (.bin .add (t 15) (.const (.int .i64 1))), s 5 (.mv (t 16))])))))) (.seq (.region false [s 4 (.mv (.const (.bool true)))]) .ret))))
def eqPairS.keep : List Nat := [0, 1, 4, 5]
def eqPairS.res : List RRes := [.tmp 4]
theorem eqPairS.of {mo : Bool} {args : List AV} {r : AV} {frs : Fr} (hn : Nat.ble args.length Try.f11.ntmps = true) (h : aCode (Kn mo Try.prog) eqPairS.keep 0 eqPairS.code (doneK eqPairS.res r frs) ⟨argEnv 0 args, [], []⟩) : Abs.Ret mo Try.prog 11 args r frs :=
  Abs.Ret.of_ir Try.func11 rfl (by kernel_rfl) (Nat.le_of_ble_eq_true hn) (by kernel_rfl) (by kernel_rfl) h
abbrev eqPairS.Ret (args : List AV) (r : AV) (frs : Fr) : Prop := Abs.Ret true Try.prog 11 args r frs
def eqPattern.code : ACode := (.seq (.region false [s 2 (.box (t 0)), s 3 (.box (t 1)), s 4 (.mv (.const (.bool false)))]) (.seq (.seq (.region false [s 5 (.fadr 0 (t 2)), s 6 (.load false 1 (t 5)), s 7 (.fadr 0 (t 3)), s 8 (.load false 1 (t 7)), s 9 (.bin .neq (t 6) (t 8))]) (.cond (t 9) (.seq (.region false [s 4 (.mv (.const (.bool false)))]) .ret) .skip)) (.seq (.seq (.region false [s 10 (.fadr 1 (t 2)), s 11 (.load false 1 (t 10)), s 12 (.fadr 1 (t 3)), s 13 (.load false 1 (t 12)), s 14 (.call 135 [(t 11), (t 13)]), s 15 (.not (t 14))]) (.cond (t 15) (.seq (.region false [s 4 (.mv (.const (.bool false)))]) .ret) .skip)) (.seq (.region false [s 4 (.mv (.const (.bool true)))]) .ret))))
def eqPattern.keep : List Nat := [0, 1, 2, 3, 4]
def eqPattern.res : List RRes := [.tmp 4]
theorem eqPattern.of {mo : Bool} {args : List AV} {r : AV} {frs : Fr} (hn : Nat.ble args.length Try.f99.ntmps = true) (h : aCode (Kn mo Try.prog) eqPattern.keep 0 eqPattern.code (doneK eqPattern.res r frs) ⟨argEnv 0 args, [], []⟩) : Abs.Ret mo Try.prog 99 args r frs :=
  Abs.Ret.of_ir Try.func99 rfl (by kernel_rfl) (Nat.le_of_ble_eq_true hn) (by kernel_rfl) (by kernel_rfl) h
abbrev eqPattern.Ret (args : List AV) (r : AV) (frs : Fr) : Prop := Abs.Ret true Try.prog 99 args r frs
def eqRule.code : ACode := (.seq (.region false [s 2 (.box (t 0)), s 3 (.box (t 1)), s 4 (.mv (.const (.bool false)))]) (.seq (.seq (.region false [s 5 (.fadr 0 (t 2)), s 6 (.load false 1 (t 5)), s 7 (.fadr 0 (t 3)), s 8 (.load false 1 (t 7)), s 9 (.bin .neq (t 6) (t 8))]) (.cond (t 9) (.seq (.region false [s 4 (.mv (.const (.bool false)))]) .ret) .skip)) (.seq (.seq (.region false [s 10 (.fadr 1 (t 2)), s 11 (.load false 1 (t 10)), s 12 (.fadr 1 (t 3)), s 13 (.load false 1 (t 12)), s 14 (.bin .neq (t 11) (t 13))]) (.cond (t 14) (.seq (.region false [s 4 (.mv (.const (.bool false)))]) .ret) .skip)) (.seq (.seq (.region false [s 15 (.fadr 2 (t 2)), s 16 (.load false 1 (t 15)), s 17 (.fadr 2 (t 3)), s 18 (.load false 1 (t 17)), s 19 (.call 18 [(t 16), (t 18)]), s 20 (.not (t 19))]) (.cond (t 20) (.seq (.region false [s 4 (.mv (.const (.bool false)))]) .ret) .skip)) (.seq (.seq (.region false [s 21 (.fadr 3 (t 2)), s 22 (.load false 1 (t 21)), s 23 (.fadr 3 (t 3)), s 24 (.load false 1 (t 23)), s 25 (.call 136 [(t 22), (t 24)]), s 26 (.not (t 25))]) (.cond (t 26) (.seq (.region false [s 4 (.mv (.const (.bool false)))]) .ret) .skip)) (.seq (.region false [s 4 (.mv (.const (.bool true)))]) .ret))))))
def eqRule.keep : List Nat := [0, 1, 2, 3, 4]
def eqRule.res : List RRes := [.tmp 4]
theorem eqRule.of {mo : Bool} {args : List AV} {r : AV} {frs : Fr} (hn : Nat.ble args.length Try.f100.ntmps = true) (h : aCode (Kn mo Try.prog) eqRule.keep 0 eqRule.code (doneK eqRule.res r frs) ⟨argEnv 0 args, [], []⟩) : Abs.Ret mo Try.prog 100 args r frs :=
  Abs.Ret.of_ir Try.func100 rfl (by kernel_rfl) (Nat.le_of_ble_eq_true hn) (by kernel_rfl) (by kernel_rfl) h
abbrev eqRule.Ret (args : List AV) (r : AV) (frs : Fr) : Prop := Abs.Ret true Try.prog 100 args r frs
def eqRuleS.code : ACode := (.seq (.region false [s 4 (.mv (.const (.bool false)))]) (.seq (.seq (.region false [s 6 (.mv (t 0)), s 7 (.len false (t 6)), s 8 (.mv (t 1)), s 9 (.len false (t 8)), s 10 (.bin .neq (t 7) (t 9))]) (.cond (t 10) (.seq (.region false [s 4 (.mv (.const (.bool false)))]) .ret) .skip)) (.seq (.seq (.region false [s 5 (.mv (.const (.int .i64 0)))]) (.block 0 (.loop (.seq (.seq (.region false [s 11 (.mv (t 5)), s 12 (.mv (t 0)), s 13 (.len false (t 12)), s 14 (.bin .lss (t 11) (t 13))]) (.cond (t 14) .skip (.exit 0))) (.seq (.block 1 (.seq (.region true [s 17 (.mv (t 0)), s 18 (.mv (t 5)), s 19 (.iadr 4 (t 17) (t 18)), s 20 (.load true 4 (t 19)), s 21 (.mv (t 1)), s 22 (.mv (t 5)), s 23 (.iadr 4 (t 21) (t 22)), s 24 (.load true 4 (t 23)), s 25 (.call 100 [(t 20), (t 24)]), s 26 (.not (t 25))]) (.cond (t 26) (.seq (.region false [s 4 (.mv (.const (.bool false)))]) .ret) .skip))) (.region false [s 15 (.mv (t 5)), s 16 (.bin .add (t 15) (.const (.int .i64 1))), s 5 (.mv (t 16))])))))) (.seq (.region false [s 4 (.mv (.const (.bool true)))]) .ret))))
def eqRuleS.keep : List Nat := [0, 1, 4, 5]
def eqRuleS.res : List RRes := [.tmp 4]
theorem eqRuleS.of {mo : Bool} {args : List AV} {r : AV} {frs : Fr} (hn : Nat.ble args.length Try.f59.ntmps = true) (h : aCode (Kn mo Try.prog) eqRuleS.keep 0 eqRuleS.code (doneK eqRuleS.res r frs) ⟨argEnv 0 args, [], []⟩) : Abs.Ret mo Try.prog 59 args r frs :=
  Abs.Ret.of_ir Try.func59 rfl (by kernel_rfl) (Nat.le_of_ble_eq_true hn) (by kernel_rfl) (by kernel_rfl) h
abbrev eqRuleS.Ret (args : List AV) (r : AV) (frs : Fr) : Prop := Abs.Ret true Try.prog 59 args r frs
def eqStringS.code : ACode := (.seq (.region false [s 4 (.mv (.const (.bool false)))]) (.seq (.seq (.region false [s 6 (.mv (t 0)), s 7 (.len false (t 6)), s 8 (.mv (t 1)), s 9 (.len false (t 8)), s 10 (.bin .neq (t 7) (t 9))]) (.cond (t 10) (.seq (.region false [s 4 (.mv (.const (.bool false)))]) .ret) .skip)) (.seq (.seq (.region false [s 5 (.mv (.const (.int .i64 0)))]) (.block 0 (.loop (.seq (.seq (.region false [s 11 (.mv (t 5)), s 12 (.mv (t 0)), s 13 (.len false (t 12)), s 14 (.bin .lss (t 11) (t 13))]) (.cond (t 14) .skip (.exit 0))) (.seq (.block 1 (.seq (.region true [s 17 (.mv (t 0)), s 18 (.mv (t 5)), s 19 (.iadr 1 (t 17) (t 18)), s 20 (.load false 1 (t 19)), s 21 (.mv (t 1)), s 22 (.mv (t 5)), s 23 (.iadr 1 (t 21) (t 22)), s 24 (.load false 1 (t 23)), s 25 (.bin .neq (t 20) (t 24))]) (.cond (t 25) (.seq (.region false [s 4 (.mv (.const (.bool false)))]) .ret) .skip))) (.region false [s 15 (.mv (t 5)), s 16 (.bin .add (t 15) (.const (.int .i64 1))), s 5 (.mv (t 16))])))))) (.seq (.region false [s 4 (.mv (.const (.bool true)))]) .ret))))
def eqStringS.keep : List Nat := [0, 1, 4, 5]
def eqStringS.res : List RRes := [.tmp 4]
theorem eqStringS.of {mo : Bool} {args : List AV} {r : AV} {frs : Fr} (hn : Nat.ble args.length Try.f135.ntmps = true) (h : aCode (Kn mo Try.prog) eqStringS.keep 0 eqStringS.code (doneK eqStringS.res r frs) ⟨argEnv 0 args, [], []⟩) : Abs.Ret mo Try.prog 135 args r frs :=
  Abs.Ret.of_ir Try.func135 rfl (by kernel_rfl) (Nat.le_of_ble_eq_true hn) (by kernel_rfl) (by kernel_rfl) h
abbrev eqStringS.Ret (args : List AV) (r : AV) (frs : Fr) : Prop := Abs.Ret true Try.prog 135 args r frs
def eqToken.code : ACode := (.seq (.region false [s 2 (.box (t 0)), s 3 (.box (t 1)), s 4 (.mv (.const (.bool false)))]) (.seq (.seq (.region false [s 5 (.fadr 0 (t 2)), s 6 (.load false 1 (t 5)), s 7 (.fadr 0 (t 3)), s 8 (.load false 1 (t 7)), s 9 (.call 63 [(t 6), (t 8)]), s 10 (.not (t 9))]) (.cond (t 10) (.seq (.region false [s 4 (.mv (.const (.bool false)))]) .ret) .skip)) (.seq (.seq (.region false [s 11 (.fadr 1 (t 2)), s 12 (.load false 1 (t 11)), s 13 (.fadr 1 (t 3)), s 14 (.load false 1 (t 13)), s 15 (.call 11 [(t 12), (t 14)]), s 16 (.not (t 15))]) (.cond (t 16) (.seq (.region false [s 4 (.mv (.const (.bool false)))]) .ret) .skip)) (.seq (.region false [s 4 (.mv (.const (.bool true)))]) .ret))))
def eqToken.keep : List Nat := [0, 1, 2, 3, 4]
def eqToken.res : List RRes := [.tmp 4]
theorem eqToken.of {mo : Bool} {args : List AV} {r : AV} {frs : Fr} (hn : Nat.ble args.length Try.f148.ntmps = true) (h : aCode (Kn mo Try.prog) eqToken.keep 0 eqToken.code (doneK eqToken.res r frs) ⟨argEnv 0 args, [], []⟩) : Abs.Ret mo Try.prog 148 args r frs :=
  Abs.Ret.of_ir Try.func148 rfl (by kernel_rfl) (Nat.le_of_ble_eq_true hn) (by kernel_rfl) (by kernel_rfl) h
abbrev eqToken.Ret (args : List AV) (r : AV) (frs : Fr) : Prop := Abs.Ret true Try.prog 148 args r frs
def eqTokenS.code : ACode := (.seq (.region false [s 4 (.mv (.const (.bool false)))]) (.seq (.seq (.region false [s 6 (.mv (t 0)), s 7 (.len false (t 6)), s 8 (.mv (t 1)), s 9 (.len false (t 8)), s 10 (.bin .neq (t 7) (t 9))]) (.cond (t 10) (.seq (.region false [s 4 (.mv (.const (.bool false)))]) .ret) .skip)) (.seq (.seq (.region false [s 5 (.mv (.const (.int .i64 0)))]) (.block 0 (.loop (.seq (.seq (.region false [s 11 (.mv (t 5)), s 12 (.mv (t 0)), s 13 (.len false (t 12)), s 14 (.bin .lss (t 11) (t 13))]) (.cond (t 14) .skip (.exit 0))) (.seq (.block 1 (.seq (.region true [s 17 (.mv (t 0)), s 18 (.mv (t 5)), s 19 (.iadr 2 (t 17) (t 18)), s 20 (.load true 2 (t 19)), s 21 (.mv (t 1)), s 22 (.mv (t 5)), s 23 (.iadr 2 (t 21) (t 22)), s 24 (.load true 2 (t 23)), s 25 (.call 148 [(t 20), (t 24)]), s 26 (.not (t 25))]) (.cond (t 26) (.seq (.region false [s 4 (.mv (.const (.bool false)))]) .ret) .skip))) (.region false [s 15 (.mv (t 5)), s 16 (.bin .add (t 15) (.const (.int .i64 1))), s 5 (.mv (t 16))])))))) (.seq (.region false [s 4 (.mv (.const (.bool true)))]) .ret))))
def eqTokenS.keep : List Nat := [0, 1, 4, 5]
def eqTokenS.res : List RRes := [.tmp 4]
theorem eqTokenS.of {mo : Bool} {args : List AV} {r : AV} {frs : Fr} (hn : Nat.ble args.length Try.f137.ntmps = true) (h : aCode (Kn mo Try.prog) eqTokenS.keep 0 eqTokenS.code (doneK eqTokenS.res r frs) ⟨argEnv 0 args, [], []⟩) : Abs.Ret mo Try.prog 137 args r frs :=
  Abs.Ret.of_ir Try.func137 rfl (by kernel_rfl) (Nat.le_of_ble_eq_true hn) (by kernel_rfl) (by kernel_rfl) h
abbrev eqTokenS.Ret (args : List AV) (r : AV) (frs : Fr) : Prop := Abs.Ret true Try.prog 137 args r frs
def heldCondS.code : ACode := (.seq (.region false [s 4 (.mv (.const (.int .i64 0)))]) (.seq (.seq (.region false [s 5 (.mv (.const (.int .i64 0)))]) (.block 0 (.loop (.seq (.seq (.region false [s 6 (.mv (t 5)), s 7 (.mv (t 0)), s 8 (.len false (t 7)), s 9 (.bin .lss (t 6) (t 8))]) (.cond (t 9) .skip (.exit 0))) (.seq (.block 1 (.seq (.seq (.region false [s 12 (.mv (t 0)), s 13 (.mv (t 5)), s 14 (.iadr 5 (t 12) (t 13)), s 15 (.fadr 0 (t 14)), s 16 (.load false 1 (t 15)), s 17 (.mv (t 1)), s 18 (.bin .neq (t 16) (t 17))]) (.cond (t 18) (.seq (.region false [s 4 (.mv (.const (.int .i64 (-1))))]) .ret) .skip)) (.seq (.region false [s 19 (.mv (t 1)), s 20 (.bin .add (t 19) (.const (.int .i64 1))), s 1 (.mv (t 20))]) (.seq (.seq (.region true [s 21 (.mv (t 0)), s 22 (.mv (t 5)), s 23 (.iadr 5 (t 21) (t 22)), s 24 (.fadr 1 (t 23)), s 25 (.fadr 0 (t 24)), s 26 (.load false 1 (t 25)), s 27 (.mv (t 1)), s 28 (.call 43 [(t 27)]), s 29 (.bin .neq (t 26) (t 28))]) (.cond (t 29) (.seq (.region false [s 4 (.mv (.const (.int .i64 (-1))))]) .ret) .skip)) (.seq (.region false [s 30 (.mv (t 1)), s 31 (.bin .add (t 30) (.const (.int .i64 1))), s 1 (.mv (t 31))]) (.seq (.region false [s 32 (.mv (t 0)), s 33 (.mv (t 5)), s 34 (.iadr 5 (t 32) (t 33)), s 35 (.fadr 1 (t 34)), s 36 (.fadr 1 (t 35)), s 37 (.load false 1 (t 36)), s 38 (.mv (t 1)), s 39 (.call 70 [(t 37), (t 38)]), s 1 (.mv (t 39))]) (.seq (.seq (.region false [s 40 (.mv (t 1)), s 41 (.bin .lss (t 40) (.const (.int .i64 0)))]) (.cond (t 41) (.seq (.region false [s 4 (.mv (.const (.int .i64 (-1))))]) .ret) .skip)) (.seq (.seq (.region true [s 42 (.mv (t 0)), s 43 (.mv (t 5)), s 44 (.iadr 5 (t 42) (t 43)), s 45 (.fadr 3 (t 44)), s 46 (.load false 1 (t 45)), s 47 (.mv (t 1)), s 48 (.call 43 [(t 47)]), s 49 (.bin .neq (t 46) (t 48))]) (.cond (t 49) (.seq (.region false [s 4 (.mv (.const (.int .i64 (-1))))]) .ret) .skip)) (.seq (.region false [s 50 (.mv (t 1)), s 51 (.bin .add (t 50) (.const (.int .i64 1))), s 1 (.mv (t 51))]) (.seq (.seq (.region true [s 52 (.mv (t 0)), s 53 (.mv (t 5)), s 54 (.iadr 5 (t 52) (t 53)), s 55 (.fadr 4 (t 54)), s 56 (.load false 1 (t 55)), s 57 (.mv (t 1)), s 58 (.call 43 [(t 57)]), s 59 (.bin .neq (t 56) (t 58))]) (.cond (t 59) (.seq (.region false [s 4 (.mv (.const (.int .i64 (-1))))]) .ret) .skip)) (.region false [s 60 (.mv (t 1)), s 61 (.bin .add (t 60) (.const (.int .i64 1))), s 1 (.mv (t 61))]))))))))))) (.region false [s 10 (.mv (t 5)), s 11 (.bin .add (t 10) (.const (.int .i64 1))), s 5 (.mv (t 11))])))))) (.seq (.region false [s 62 (.mv (t 1)), s 4 (.mv (t 62))]) .ret)))
def heldCondS.keep : List Nat := [0, 1, 4, 5]
def heldCondS.res : List RRes := [.tmp 4]
theorem heldCondS.ofS {mo : Bool} {args : List AV} {r : AV} (hr : isScalR r = true) (hn : Nat.ble args.length Try.f22.ntmps = true) (h : aCode (Kn mo Try.prog) heldCondS.keep 0 heldCondS.code (doneS heldCondS.res r) ⟨argEnv 0 args, [], []⟩) : Abs.Ret mo Try.prog 22 args r [] :=
  Abs.Ret.of_irS hr Try.func22 rfl (by kernel_rfl) (Nat.le_of_ble_eq_true hn) (by kernel_rfl) (by kernel_rfl) h
abbrev heldCondS.Ret (args : List AV) (r : AV) (frs : Fr) : Prop := Abs.Ret true Try.prog 22 args r frs
def heldStringS.code : ACode := (.seq (.region false [s 4 (.mv (.const (.int .i64 0)))]) (.seq (.seq (.region false [s 5 (.mv (.const (.int .i64 0)))]) (.block 0 (.loop (.seq (.seq (.region false [s 6 (.mv (t 5)), s 7 (.mv (t 0)), s 8 (.len false (t 7)), s 9 (.bin .lss (t 6) (t 8))]) (.cond (t 9) .skip (.exit 0))) (.seq (.block 1 (.seq (.seq (.region true [s 12 (.mv (t 0)), s 13 (.mv (t 5)), s 14 (.iadr 1 (t 12) (t 13)), s 15 (.load false 1 (t 14)), s 16 (.mv (t 1)), s 17 (.call 43 [(t 16)]), s 18 (.bin .neq (t 15) (t 17))]) (.cond (t 18) (.seq (.region false [s 4 (.mv (.const (.int .i64 (-1))))]) .ret) .skip)) (.region false [s 19 (.mv (t 1)), s 20 (.bin .add (t 19) (.const (.int .i64 1))), s 1 (.mv (t 20))]))) (.region false [s 10 (.mv (t 5)), s 11 (.bin .add (t 10) (.const (.int .i64 1))), s 5 (.mv (t 11))])))))) (.seq (.region false [s 21 (.mv (t 1)), s 4 (.mv (t 21))]) .ret)))
def heldStringS.keep : List Nat := [0, 1, 4, 5]
def heldStringS.res : List RRes := [.tmp 4]
theorem heldStringS.ofS {mo : Bool} {args : List AV} {r : AV} (hr : isScalR r = true) (hn : Nat.ble args.length Try.f70.ntmps = true) (h : aCode (Kn mo Try.prog) heldStringS.keep 0 heldStringS.code (doneS heldStringS.res r) ⟨argEnv 0 args, [], []⟩) : Abs.Ret mo Try.prog 70 args r [] :=
  Abs.Ret.of_irS hr Try.func70 rfl (by kernel_rfl) (Nat.le_of_ble_eq_true hn) (by kernel_rfl) (by kernel_rfl) h
abbrev heldStringS.Ret (args : List AV) (r : AV) (frs : Fr) : Prop := Abs.Ret true Try.prog 70 args r frs
def markActionS.code : ACode := (.seq (.region false [s 4 (.mv (.const (.int .i64 0)))]) (.seq (.seq (.region false [s 5 (.mv (.const (.int .i64 0)))]) (.block 0 (.loop (.seq (.seq (.region false [s 6 (.mv (t 5)), s 7 (.mv (t 0)), s 8 (.len false (t 7)), s 9 (.bin .lss (t 6) (t 8))]) (.cond (t 9) .skip (.exit 0))) (.seq (.block 1 (.seq (.region false [s 12 (.mv (t 0)), s 13 (.mv (t 5)), s 14 (.mv (t 1)), s 15 (.iadr 3 (t 12) (t 13)), s 16 (.fadr 0 (t 15)), ⟨none, none, (.store 1 (t 16) (t 14))⟩]) (.seq (.region false [s 17 (.mv (t 1)), s 18 (.bin .add (t 17) (.const (.int .i64 1))), s 1 (.mv (t 18))]) (.seq (.region false [s 19 (.mv (t 0)), s 20 (.mv (t 5)), s 21 (.mv (t 1)), s 22 (.call 43 [(t 21)]), s 23 (.iadr 3 (t 19) (t 20)), s 24 (.fadr 1 (t 23)), s 25 (.fadr 0 (t 24)), ⟨none, none, (.store 1 (t 25) (t 22))⟩]) (.seq (.region false [s 26 (.mv (t 1)), s 27 (.bin .add (t 26) (.const (.int .i64 1))), s 1 (.mv (t 27))]) (.region false [s 28 (.mv (t 0)), s 29 (.mv (t 5)), s 30 (.iadr 3 (t 28) (t 29)), s 31 (.fadr 1 (t 30)), s 32 (.fadr 1 (t 31)), s 33 (.load false 1 (t 32)), s 34 (.mv (t 1)), s 35 (.call 69 [(t 33), (t 34)]), s 1 (.mv (t 35))])))))) (.region false [s 10 (.mv (t 5)), s 11 (.bin .add (t 10) (.const (.int .i64 1))), s 5 (.mv (t 11))])))))) (.seq (.region false [s 36 (.mv (t 1)), s 4 (.mv (t 36))]) .ret)))
def markActionS.keep : List Nat := [0, 1, 4, 5]
def markActionS.res : List RRes := [.tmp 4]
theorem markActionS.ofT {mo : Bool} {b0 : List ABox} {x' : Tr} {args : List AV} {r : AV} (hr : isScalR r = true) (hn : Nat.ble args.length Try.f104.ntmps = true) (hx : nb x' = b0.length) (h : aCode (Kn mo Try.prog) markActionS.keep b0.length markActionS.code (doneT markActionS.res b0.length r (gb x' 0)) ⟨argEnv 0 args, b0, []⟩) : Abs.Turn mo Try.prog 104 b0 args r (gb x' 0) :=
  Abs.Turn.of_ir hr Try.func104 rfl (by kernel_rfl) (Nat.le_of_ble_eq_true hn) (by kernel_rfl) (by kernel_rfl) hx h
abbrev markActionS.Turn (b0 : List ABox) (args : List AV) (r : AV) (b1 : List ABox) : Prop := Abs.Turn true Try.prog 104 b0 args r b1
def markAlphaS.code : ACode := (.seq (.region false [s 4 (.mv (.const (.int .i64 0)))]) (.seq (.seq (.region false [s 5 (.mv (.const (.int .i64 0)))]) (.block 0 (.loop (.seq (.seq (.region false [s 6 (.mv (t 5)), s 7 (.mv (t 0)), s 8 (.len false (t 7)), s 9 (.bin .lss (t 6) (t 8))]) (.cond (t 9) .skip (.exit 0))) (.seq (.block 1 (.seq (.region false [s 12 (.mv (t 0)), s 13 (.mv (t 5)), s 14 (.mv (t 1)), s 15 (.call 43 [(t 14)]), s 16 (.iadr 3 (t 12) (t 13)), s 17 (.fadr 0 (t 16)), s 18 (.fadr 0 (t 17)), ⟨none, none, (.store 1 (t 18) (t 15))⟩]) (.seq (.region false [s 19 (.mv (t 1)), s 20 (.bin .add (t 19) (.const (.int .i64 1))), s 1 (.mv (t 20))]) (.seq (.region false [s 21 (.mv (t 0)), s 22 (.mv (t 5)), s 23 (.iadr 3 (t 21) (t 22)), s 24 (.fadr 0 (t 23)), s 25 (.fadr 1 (t 24)), s 26 (.load false 1 (t 25)), s 27 (.mv (t 1)), s 28 (.call 69 [(t 26), (t 27)]), s 1 (.mv (t 28))]) (.region false [s 29 (.mv (t 0)), s 30 (.mv (t 5)), s 31 (.iadr 3 (t 29) (t 30)), s 32 (.fadr 2 (t 31)), s 33 (.load false 1 (t 32)), s 34 (.mv (t 1)), s 35 (.call 68 [(t 33), (t 34)]), s 1 (.mv (t 35))]))))) (.region false [s 10 (.mv (t 5)), s 11 (.bin .add (t 10) (.const (.int .i64 1))), s 5 (.mv (t 11))])))))) (.seq (.region false [s 36 (.mv (t 1)), s 4 (.mv (t 36))]) .ret)))
def markAlphaS.keep : List Nat := [0, 1, 4, 5]
def markAlphaS.res : List RRes := [.tmp 4]
theorem markAlphaS.ofT {mo : Bool} {b0 : List ABox} {x' : Tr} {args : List AV} {r : AV} (hr : isScalR r = true) (hn : Nat.ble args.length Try.f66.ntmps = true) (hx : nb x' = b0.length) (h : aCode (Kn mo Try.prog) markAlphaS.keep b0.length markAlphaS.code (doneT markAlphaS.res b0.length r (gb x' 0)) ⟨argEnv 0 args, b0, []⟩) : Abs.Turn mo Try.prog 66 b0 args r (gb x' 0) :=
  Abs.Turn.of_ir hr Try.func66 rfl (by kernel_rfl) (Nat.le_of_ble_eq_true hn) (by kernel_rfl) (by kernel_rfl) hx h
abbrev markAlphaS.Turn (b0 : List ABox) (args : List AV) (r : AV) (b1 : List ABox) : Prop := Abs.Turn true Try.prog 66 b0 args r b1
def markCondS.code : ACode := (.seq (.region false [s 4 (.mv (.const (.int .i64 0)))]) (.seq (.seq (.region false [s 5 (.mv (.const (.int .i64 0)))]) (.block 0 (.loop (.seq (.seq (.region false [s 6 (.mv (t 5)), s 7 (.mv (t 0)), s 8 (.len false (t 7)), s 9 (.bin .lss (t 6) (t 8))]) (.cond (t 9) .skip (.exit 0))) (.seq (.block 1 (.seq (.region false [s 12 (.mv (t 0)), s 13 (.mv (t 5)), s 14 (.mv (t 1)), s 15 (.iadr 5 (t 12) (t 13)), s 16 (.fadr 0 (t 15)), ⟨none, none, (.store 1 (t 16) (t 14))⟩]) (.seq (.region false [s 17 (.mv (t 1)), s 18 (.bin .add (t 17) (.const (.int .i64 1))), s 1 (.mv (t 18))]) (.seq (.region false [s 19 (.mv (t 0)), s 20 (.mv (t 5)), s 21 (.mv (t 1)), s 22 (.call 43 [(t 21)]), s 23 (.iadr 5 (t 19) (t 20)), s 24 (.fadr 1 (t 23)), s 25 (.fadr 0 (t 24)), ⟨none, none, (.store 1 (t 25) (t 22))⟩]) (.seq (.region false [s 26 (.mv (t 1)), s 27 (.bin .add (t 26) (.const (.int .i64 1))), s 1 (.mv (t 27))]) (.seq (.region false [s 28 (.mv (t 0)), s 29 (.mv (t 5)), s 30 (.iadr 5 (t 28) (t 29)), s 31 (.fadr 1 (t 30)), s 32 (.fadr 1 (t 31)), s 33 (.load false 1 (t 32)), s 34 (.mv (t 1)), s 35 (.call 69 [(t 33), (t 34)]), s 1 (.mv (t 35))]) (.seq (.region false [s 36 (.mv (t 0)), s 37 (.mv (t 5)), s 38 (.mv (t 1)), s 39 (.call 43 [(t 38)]), s 40 (.iadr 5 (t 36) (t 37)), s 41 (.fadr 3 (t 40)), ⟨none, none, (.store 1 (t 41) (t 39))⟩]) (.seq (.region false [s 42 (.mv (t 1)), s 43 (.bin .add (t 42) (.const (.int .i64 1))), s 1 (.mv (t 43))]) (.seq (.region false [s 44 (.mv (t 0)), s 45 (.mv (t 5)), s 46 (.mv (t 1)), s 47 (.call 43 [(t 46)]), s 48 (.iadr 5 (t 44) (t 45)), s 49 (.fadr 4 (t 48)), ⟨none, none, (.store 1 (t 49) (t 47))⟩]) (.region false [s 50 (.mv (t 1)), s 51 (.bin .add (t 50) (.const (.int .i64 1))), s 1 (.mv (t 51))])))))))))) (.region false [s 10 (.mv (t 5)), s 11 (.bin .add (t 10) (.const (.int .i64 1))), s 5 (.mv (t 11))])))))) (.seq (.region false [s 52 (.mv (t 1)), s 4 (.mv (t 52))]) .ret)))
def markCondS.keep : List Nat := [0, 1, 4, 5]
def markCondS.res : List RRes := [.tmp 4]
theorem markCondS.ofT {mo : Bool} {b0 : List ABox} {x' : Tr} {args : List AV} {r : AV} (hr : isScalR r = true) (hn : Nat.ble args.length Try.f21.ntmps = true) (hx : nb x' = b0.length) (h : aCode (Kn mo Try.prog) markCondS.keep b0.length markCondS.code (doneT markCondS.res b0.length r (gb x' 0)) ⟨argEnv 0 args, b0, []⟩) : Abs.Turn mo Try.prog 21 b0 args r (gb x' 0) :=
  Abs.Turn.of_ir hr Try.func21 rfl (by kernel_rfl) (Nat.le_of_ble_eq_true hn) (by kernel_rfl) (by kernel_rfl) hx h
abbrev markCondS.Turn (b0 : List ABox) (args : List AV) (r : AV) (b1 : List ABox) : Prop := Abs.Turn true Try.prog 21 b0 args r b1
def markFactS.code : ACode := (.seq (.region false [s 4 (.mv (.const (.int .i64 0)))]) (.seq (.seq (.region false [s 5 (.mv (.const (.int .i64 0)))]) (.block 0 (.loop (.seq (.seq (.region false [s 6 (.mv (t 5)), s 7 (.mv (t 0)), s 8 (.len false (t 7)), s 9 (.bin .lss (t 6) (t 8))]) (.cond (t 9) .skip (.exit 0))) (.seq (.block 1 (.seq (.region false [s 12 (.mv (t 0)), s 13 (.mv (t 5)), s 14 (.mv (t 1)), s 15 (.call 43 [(t 14)]), s 16 (.iadr 2 (t 12) (t 13)), s 17 (.fadr 0 (t 16)), ⟨none, none, (.store 1 (t 17) (t 15))⟩]) (.seq (.region false [s 18 (.mv (t 1)), s 19 (.bin .add (t 18) (.const (.int .i64 1))), s 1 (.mv (t 19))]) (.region false [s 20 (.mv (t 0)), s 21 (.mv (t 5)), s 22 (.iadr 2 (t 20) (t 21)), s 23 (.fadr 1 (t 22)), s 24 (.load false 1 (t 23)), s 25 (.mv (t 1)), s 26 (.call 69 [(t 24), (t 25)]), s 1 (.mv (t 26))])))) (.region false [s 10 (.mv (t 5)), s 11 (.bin .add (t 10) (.const (.int .i64 1))), s 5 (.mv (t 11))])))))) (.seq (.region false [s 27 (.mv (t 1)), s 4 (.mv (t 27))]) .ret)))
def markFactS.keep : List Nat := [0, 1, 4, 5]
def markFactS.res : List RRes := [.tmp 4]
theorem markFactS.ofT {mo : Bool} {b0 : List ABox} {x' : Tr} {args : List AV} {r : AV} (hr : isScalR r = true) (hn : Nat.ble args.length Try.f68.ntmps = true) (hx : nb x' = b0.length) (h : aCode (Kn mo Try.prog) markFactS.keep b0.length markFactS.code (doneT markFactS.res b0.length r (gb x' 0)) ⟨argEnv 0 args, b0, []⟩) : Abs.Turn mo Try.prog 68 b0 args r (gb x' 0) :=
  Abs.Turn.of_ir hr Try.func68 rfl (by kernel_rfl) (Nat.le_of_ble_eq_true hn) (by kernel_rfl) (by kernel_rfl) hx h
abbrev markFactS.Turn (b0 : List ABox) (args : List AV) (r : AV) (b1 : List ABox) : Prop := Abs.Turn true Try.prog 68 b0 args r b1
def markIntS.code : ACode := (.seq (.region false [s 4 (.mv (.const (.int .i64 0)))]) (.seq (.seq (.region false [s 5 (.mv (.const (.int .i64 0)))]) (.block 0 (.loop (.seq (.seq (.region false [s 6 (.mv (t 5)), s 7 (.mv (t 0)), s 8 (.len false (t 7)), s 9 (.bin .lss (t 6) (t 8))]) (.cond (t 9) .skip (.exit 0))) (.seq (.block 1 (.seq (.region false [s 12 (.mv (t 0)), s 13 (.mv (t 5)), s 14 (.mv (t 1)), s 15 (.iadr 1 (t 12) (t 13)), ⟨none, none, (.store 1 (t 15) (t 14))⟩]) (.region false [s 16 (.mv (t 1)), s 17 (.bin .add (t 16) (.const (.int .i64 1))), s 1 (.mv (t 17))]))) (.region false [s 10 (.mv (t 5)), s 11 (.bin .add (t 10) (.const (.int .i64 1))), s 5 (.mv (t 11))])))))) (.seq (.region false [s 18 (.mv (t 1)), s 4 (.mv (t 18))]) .ret)))
def markIntS.keep : List Nat := [0, 1, 4, 5]
def markIntS.res : List RRes := [.tmp 4]
theorem markIntS.ofT {mo : Bool} {b0 : List ABox} {x' : Tr} {args : List AV} {r : AV} (hr : isScalR r = true) (hn : Nat.ble args.length Try.f65.ntmps = true) (hx : nb x' = b0.length) (h : aCode (Kn mo Try.prog) markIntS.keep b0.length markIntS.code (doneT markIntS.res b0.length r (gb x' 0)) ⟨argEnv 0 args, b0, []⟩) : Abs.Turn mo Try.prog 65 b0 args r (gb x' 0) :=
  Abs.Turn.of_ir hr Try.func65 rfl (by kernel_rfl) (Nat.le_of_ble_eq_true hn) (by kernel_rfl) (by kernel_rfl) hx h
abbrev markIntS.Turn (b0 : List ABox) (args : List AV) (r : AV) (b1 : List ABox) : Prop := Abs.Turn true Try.prog 65 b0 args r b1
def markNetwork.code : ACode := (.seq (.region false [s 2 (.box (t 0)), s 4 (.mv (.const (.int .i64 0)))]) (.seq (.region false [s 5 (.fadr 0 (t 2)), s 6 (.load false 1 (t 5)), s 7 (.mv (t 1)), s 8 (.call 64 [(t 6), (t 7)]), s 1 (.mv (t 8))]) (.seq (.region false [s 9 (.fadr 1 (t 2)), s 10 (.load false 1 (t 9)), s 11 (.mv (t 1)), s 12 (.call 65 [(t 10), (t 11)]), s 1 (.mv (t 12))]) (.seq (.region false [s 13 (.fadr 2 (t 2)), s 14 (.load false 1 (t 13)), s 15 (.mv (t 1)), s 16 (.call 66 [(t 14), (t 15)]), s 1 (.mv (t 16))]) (.seq (.region false [s 17 (.fadr 3 (t 2)), s 18 (.load false 1 (t 17)), s 19 (.mv (t 1)), s 20 (.call 67 [(t 18), (t 19)]), s 1 (.mv (t 20))]) (.seq (.region false [s 21 (.fadr 4 (t 2)), s 22 (.load false 1 (t 21)), s 23 (.mv (t 1)), s 24 (.call 68 [(t 22), (t 23)]), s 1 (.mv (t 24))]) (.seq (.region false [s 25 (.mv (t 1)), s 4 (.mv (t 25))]) .ret)))))))
def markNetwork.keep : List Nat := [0, 1, 2, 4]
def markNetwork.res : List RRes := [.tmp 4]
theorem markNetwork.ofT {mo : Bool} {b0 : List ABox} {x' : Tr} {args : List AV} {r : AV} (hr : isScalR r = true) (hn : Nat.ble args.length Try.f20.ntmps = true) (hx : nb x' = b0.length) (h : aCode (Kn mo Try.prog) markNetwork.keep b0.length markNetwork.code (doneT markNetwork.res b0.length r (gb x' 0)) ⟨argEnv 0 args, b0, []⟩) : Abs.Turn mo Try.prog 20 b0 args r (gb x' 0) :=
  Abs.Turn.of_ir hr Try.func20 rfl (by kernel_rfl) (Nat.le_of_ble_eq_true hn) (by kernel_rfl) (by kernel_rfl) hx h
abbrev markNetwork.Turn (b0 : List ABox) (args : List AV) (r : AV) (b1 : List ABox) : Prop := Abs.Turn true Try.prog 20 b0 args r b1
def markNodeS.code : ACode := (.seq (.region false [s 4 (.mv (.const (.int .i64 0)))]) (.seq (.seq (.region false [s 5 (.mv (.const (.int .i64 0)))]) (.block 0 (.loop (.seq (.seq (.region false [s 6 (.mv (t 5)), s 7 (.mv (t 0)), s 8 (.len false (t 7)), s 9 (.bin .lss (t 6) (t 8))]) (.cond (t 9) .skip (.exit 0))) (.seq (.block 1 (.seq (.region false [s 12 (.mv (t 0)), s 13 (.mv (t 5)), s 14 (.mv (t 1)), s 15 (.iadr 8 (t 12) (t 13)), s 16 (.fadr 0 (t 15)), ⟨none, none, (.store 1 (t 16) (t 14))⟩]) (.seq (.region false [s 17 (.mv (t 1)), s 18 (.bin .add (t 17) (.const (.int .i64 1))), s 1 (.mv (t 18))]) (.seq (.region false [s 19 (.mv (t 0)), s 20 (.mv (t 5)), s 21 (.mv (t 1)), s 22 (.iadr 8 (t 19) (t 20)), s 23 (.fadr 1 (t 22)), s 24 (.fadr 0 (t 23)), ⟨none, none, (.store 1 (t 24) (t 21))⟩]) (.seq (.region false [s 25 (.mv (t 1)), s 26 (.bin .add (t 25) (.const (.int .i64 1))), s 1 (.mv (t 26))]) (.seq (.region false [s 27 (.mv (t 0)), s 28 (.mv (t 5)), s 29 (.mv (t 1)), s 30 (.call 43 [(t 29)]), s 31 (.iadr 8 (t 27) (t 28)), s 32 (.fadr 1 (t 31)), s 33 (.fadr 1 (t 32)), s 34 (.fadr 0 (t 33)), ⟨none, none, (.store 1 (t 34) (t 30))⟩]) (.seq (.region false [s 35 (.mv (t 1)), s 36 (.bin .add (t 35) (.const (.int .i64 1))), s 1 (.mv (t 36))]) (.seq (.region false [s 37 (.mv (t 0)), s 38 (.mv (t 5)), s 39 (.iadr 8 (t 37) (t 38)), s 40 (.fadr 1 (t 39)), s 41 (.fadr 1 (t 40)), s 42 (.fadr 1 (t 41)), s 43 (.load false 1 (t 42)), s 44 (.mv (t 1)), s 45 (.call 69 [(t 43), (t 44)]), s 1 (.mv (t 45))]) (.seq (.region false [s 46 (.mv (t 0)), s 47 (.mv (t 5)), s 48 (.mv (t 1)), s 49 (.call 43 [(t 48)]), s 50 (.iadr 8 (t 46) (t 47)), s 51 (.fadr 1 (t 50)), s 52 (.fadr 3 (t 51)), ⟨none, none, (.store 1 (t 52) (t 49))⟩]) (.seq (.region false [s 53 (.mv (t 1)), s 54 (.bin .add (t 53) (.const (.int .i64 1))), s 1 (.mv (t 54))]) (.seq (.region false [s 55 (.mv (t 0)), s 56 (.mv (t 5)), s 57 (.mv (t 1)), s 58 (.call 43 [(t 57)]), s 59 (.iadr 8 (t 55) (t 56)), s 60 (.fadr 1 (t 59)), s 61 (.fadr 4 (t 60)), ⟨none, none, (.store 1 (t 61) (t 58))⟩]) (.seq (.region false [s 62 (.mv (t 1)), s 63 (.bin .add (t 62) (.const (.int .i64 1))), s 1 (.mv (t 63))]) (.seq (.region false [s 64 (.mv (t 0)), s 65 (.mv (t 5)), s 66 (.mv (t 1)), s 67 (.iadr 8 (t 64) (t 65)), s 68 (.fadr 6 (t 67)), ⟨none, none, (.store 1 (t 68) (t 66))⟩]) (.seq (.region false [s 69 (.mv (t 1)), s 70 (.bin .add (t 69) (.const (.int .i64 1))), s 1 (.mv (t 70))]) (.region false [s 71 (.mv (t 0)), s 72 (.mv (t 5)), s 73 (.iadr 8 (t 71) (t 72)), s 74 (.fadr 7 (t 73)), s 75 (.load false 1 (t 74)), s 76 (.mv (t 1)), s 77 (.call 105 [(t 75), (t 76)]), s 1 (.mv (t 77))]))))))))))))))) (.region false [s 10 (.mv (t 5)), s 11 (.bin .add (t 10) (.const (.int .i64 1))), s 5 (.mv (t 11))])))))) (.seq (.region false [s 78 (.mv (t 1)), s 4 (.mv (t 78))]) .ret)))
def markNodeS.keep : List Nat := [0, 1, 4, 5]
def markNodeS.res : List RRes := [.tmp 4]
theorem markNodeS.ofT {mo : Bool} {b0 : List ABox} {x' : Tr} {args : List AV} {r : AV} (hr : isScalR r = true) (hn : Nat.ble args.length Try.f67.ntmps = true) (hx : nb x' = b0.length) (h : aCode (Kn mo Try.prog) markNodeS.keep b0.length markNodeS.code (doneT markNodeS.res b0.length r (gb x' 0)) ⟨argEnv 0 args, b0, []⟩) : Abs.Turn mo Try.prog 67 b0 args r (gb x' 0) :=
  Abs.Turn.of_ir hr Try.func67 rfl (by kernel_rfl) (Nat.le_of_ble_eq_true hn) (by kernel_rfl) (by kernel_rfl) hx h
abbrev markNodeS.Turn (b0 : List ABox) (args : List AV) (r : AV) (b1 : List ABox) : Prop := Abs.Turn true Try.prog 67 b0 args r b1
def markPairS.code : ACode := (.seq (.region false [s 4 (.mv (.const (.int .i64 0)))]) (.seq (.seq (.region false [s 5 (.mv (.const (.int .i64 0)))]) (.block 0 (.loop (.seq (.seq (.region false [s 6 (.mv (t 5)), s 7 (.mv (t 0)), s 8 (.len false (t 7)), s 9 (.bin .lss (t 6) (t 8))]) (.cond (t 9) .skip (.exit 0))) (.seq (.block 1 (.seq (.region false [s 12 (.mv (t 0)), s 13 (.mv (t 5)), s 14 (.mv (t 1)), s 15 (.call 43 [(t 14)]), s 16 (.iadr 2 (t 12) (t 13)), s 17 (.fadr 0 (t 16)), ⟨none, none, (.store 1 (t 17) (t 15))⟩]) (.seq (.region false [s 18 (.mv (t 1)), s 19 (.bin .add (t 18) (.const (.int .i64 1))), s 1 (.mv (t 19))]) (.seq (.region false [s 20 (.mv (t 0)), s 21 (.mv (t 5)), s 22 (.mv (t 1)), s 23 (.call 43 [(t 22)]), s 24 (.iadr 2 (t 20) (t 21)), s 25 (.fadr 1 (t 24)), ⟨none, none, (.store 1 (t 25) (t 23))⟩]) (.region false [s 26 (.mv (t 1)), s 27 (.bin .add (t 26) (.const (.int .i64 1))), s 1 (.mv (t 27))]))))) (.region false [s 10 (.mv (t 5)), s 11 (.bin .add (t 10) (.const (.int .i64 1))), s 5 (.mv (t 11))])))))) (.seq (.region false [s 28 (.mv (t 1)), s 4 (.mv (t 28))]) .ret)))
def markPairS.keep : List Nat := [0, 1, 4, 5]
def markPairS.res : List RRes := [.tmp 4]
theorem markPairS.ofT {mo : Bool} {b0 : List ABox} {x' : Tr} {args : List AV} {r : AV} (hr : isScalR r = true) (hn : Nat.ble args.length Try.f12.ntmps = true) (hx : nb x' = b0.length) (h : aCode (Kn mo Try.prog) markPairS.keep b0.length markPairS.code (doneT markPairS.res b0.length r (gb x' 0)) ⟨argEnv 0 args, b0, []⟩) : Abs.Turn mo Try.prog 12 b0 args r (gb x' 0) :=
  Abs.Turn.of_ir hr Try.func12 rfl (by kernel_rfl) (Nat.le_of_ble_eq_true hn) (by kernel_rfl) (by kernel_rfl) hx h
abbrev markPairS.Turn (b0 : List ABox) (args : List AV) (r : AV) (b1 : List ABox) : Prop := Abs.Turn true Try.prog 12 b0 args r b1
def markRuleS.code : ACode := (.seq (.region false [s 4 (.mv (.const (.int .i64 0)))]) (.seq (.seq (.region false [s 5 (.mv (.const (.int .i64 0)))]) (.block 0 (.loop (.seq (.seq (.region false [s 6 (.mv (t 5)), s 7 (.mv (t 0)), s 8 (.len false (t 7)), s 9 (.bin .lss (t 6) (t 8))]) (.cond (t 9) .skip (.exit 0))) (.seq (.block 1 (.seq (.region false [s 12 (.mv (t 0)), s 13 (.mv (t 5)), s 14 (.mv (t 1)), s 15 (.call 43 [(t 14)]), s 16 (.iadr 4 (t 12) (t 13)), s 17 (.fadr 0 (t 16)), ⟨none, none, (.store 1 (t 17) (t 15))⟩]) (.seq (.region false [s 18 (.mv (t 1)), s 19 (.bin .add (t 18) (.const (.int .i64 1))), s 1 (.mv (t 19))]) (.seq (.region false [s 20 (.mv (t 0)), s 21 (.mv (t 5)), s 22 (.mv (t 1)), s 23 (.iadr 4 (t 20) (t 21)), s 24 (.fadr 1 (t 23)), ⟨none, none, (.store 1 (t 24) (t 22))⟩]) (.seq (.region false [s 25 (.mv (t 1)), s 26 (.bin .add (t 25) (.const (.int .i64 1))), s 1 (.mv (t 26))]) (.seq (.region false [s 27 (.mv (t 0)), s 28 (.mv (t 5)), s 29 (.iadr 4 (t 27) (t 28)), s 30 (.fadr 2 (t 29)), s 31 (.load false 1 (t 30)), s 32 (.mv (t 1)), s 33 (.call 21 [(t 31), (t 32)]), s 1 (.mv (t 33))]) (.region false [s 34 (.mv (t 0)), s 35 (.mv (t 5)), s 36 (.iadr 4 (t 34) (t 35)), s 37 (.fadr 3 (t 36)), s 38 (.load false 1 (t 37)), s 39 (.mv (t 1)), s 40 (.call 104 [(t 38), (t 39)]), s 1 (.mv (t 40))]))))))) (.region false [s 10 (.mv (t 5)), s 11 (.bin .add (t 10) (.const (.int .i64 1))), s 5 (.mv (t 11))])))))) (.seq (.region false [s 41 (.mv (t 1)), s 4 (.mv (t 41))]) .ret)))
def markRuleS.keep : List Nat := [0, 1, 4, 5]
def markRuleS.res : List RRes := [.tmp 4]
theorem markRuleS.ofT {mo : Bool} {b0 : List ABox} {x' : Tr} {args : List AV} {r : AV} (hr : isScalR r = true) (hn : Nat.ble args.length Try.f64.ntmps = true) (hx : nb x' = b0.length) (h : aCode (Kn mo Try.prog) markRuleS.keep b0.length markRuleS.code (doneT markRuleS.res b0.length r (gb x' 0)) ⟨argEnv 0 args, b0, []⟩) : Abs.Turn mo Try.prog 64 b0 args r (gb x' 0) :=
  Abs.Turn.of_ir hr Try.func64 rfl (by kernel_rfl) (Nat.le_of_ble_eq_true hn) (by kernel_rfl) (by kernel_rfl) hx h
abbrev markRuleS.Turn (b0 : List ABox) (args : List AV) (r : AV) (b1 : List ABox) : Prop := Abs.Turn true Try.prog 64 b0 args r b1
def markStringS.code : ACode := (.seq (.region false [s 4 (.mv (.const (.int .i64 0)))]) (.seq (.seq (.region false [s 5 (.mv (.const (.int .i64 0)))]) (.block 0 (.loop (.seq (.seq (.region false [s 6 (.mv (t 5)), s 7 (.mv (t 0)), s 8 (.len false (t 7)), s 9 (.bin .lss (t 6) (t 8))]) (.cond (t 9) .skip (.exit 0))) (.seq (.block 1 (.seq (.region false [s 12 (.mv (t 0)), s 13 (.mv (t 5)), s 14 (.mv (t 1)), s 15 (.call 43 [(t 14)]), s 16 (.iadr 1 (t 12) (t 13)), ⟨none, none, (.store 1 (t 16) (t 15))⟩]) (.region false [s 17 (.mv (t 1)), s 18 (.bin .add (t 17) (.const (.int .i64 1))), s 1 (.mv (t 18))]))) (.region false [s 10 (.mv (t 5)), s 11 (.bin .add (t 10) (.const (.int .i64 1))), s 5 (.mv (t 11))])))))) (.seq (.region false [s 19 (.mv (t 1)), s 4 (.mv (t 19))]) .ret)))
def markStringS.keep : List Nat := [0, 1, 4, 5]
def markStringS.res : List RRes := [.tmp 4]
theorem markStringS.ofT {mo : Bool} {b0 : List ABox} {x' : Tr} {args : List AV} {r : AV} (hr : isScalR r = true) (hn : Nat.ble args.length Try.f69.ntmps = true) (hx : nb x' = b0.length) (h : aCode (Kn mo Try.prog) markStringS.keep b0.length markStringS.code (doneT markStringS.res b0.length r (gb x' 0)) ⟨argEnv 0 args, b0, []⟩) : Abs.Turn mo Try.prog 69 b0 args r (gb x' 0) :=
  Abs.Turn.of_ir hr Try.func69 rfl (by kernel_rfl) (Nat.le_of_ble_eq_true hn) (by kernel_rfl) (by kernel_rfl) hx h
abbrev markStringS.Turn (b0 : List ABox) (args : List AV) (r : AV) (b1 : List ABox) : Prop := Abs.Turn true Try.prog 69 b0 args r b1
def markText.code : ACode := (.seq (.region false [s 2 (.mv (.const (.string (.mk #[]))))]) (.seq (.seq (.region false [s 4 (.mv (t 0)), s 5 (.bin .leq (t 4) (.const (.int .i64 0)))]) (.cond (t 5) (.seq (.region false [s 2 (.mv (.const (.string (.mk #[109, 48]))))]) .ret) .skip)) (.seq (.region false [s 3 (.mv (.const (.string (.mk #[]))))]) (.seq (.block 0 (.loop (.seq (.seq (.region false [s 6 (.mv (t 0)), s 7 (.bin .gtr (t 6) (.const (.int .i64 0)))]) (.cond (t 7) .skip (.exit 0))) (.block 1 (.seq (.region false [s 8 (.mv (t 0)), s 9 (.bin .rem (t 8) (.const (.int .i64 10))), s 10 (.bin .add (.const (.int .i64 48)) (t 9)), s 11 (.conv .u8 (t 10)), s 12 (.bslice 5 1 true [(t 11)]), s 13 (.b2s (t 12)), s 14 (.mv (t 3)), s 15 (.bin .add (t 13) (t 14)), s 3 (.mv (t 15))]) (.region false [s 16 (.mv (t 0)), s 17 (.bin .quo (t 16) (.const (.int .i64 10))), s 0 (.mv (t 17))])))))) (.seq (.region false [s 18 (.mv (t 3)), s 19 (.bin .add (.const (.string (.mk #[109]))) (t 18)), s 2 (.mv (t 19))]) .ret)))))
def markText.keep : List Nat := [0, 2, 3]
def markText.res : List RRes := [.tmp 2]
theorem markText.ofS {mo : Bool} {args : List AV} {r : AV} (hr : isScalR r = true) (hn : Nat.ble args.length Try.f43.ntmps = true) (h : aCode (Kn mo Try.prog) markText.keep 0 markText.code (doneS markText.res r) ⟨argEnv 0 args, [], []⟩) : Abs.Ret mo Try.prog 43 args r [] :=
  Abs.Ret.of_irS hr Try.func43 rfl (by kernel_rfl) (Nat.le_of_ble_eq_true hn) (by kernel_rfl) (by kernel_rfl) h
abbrev markText.Ret (args : List AV) (r : AV) (frs : Fr) : Prop := Abs.Ret true Try.prog 43 args r frs
def markTokenS.code : ACode := (.seq (.region false [s 4 (.mv (.const (.int .i64 0)))]) (.seq (.seq (.region false [s 5 (.mv (.const (.int .i64 0)))]) (.block 0 (.loop (.seq (.seq (.region false [s 6 (.mv (t 5)), s 7 (.mv (t 0)), s 8 (.len false (t 7)), s 9 (.bin .lss (t 6) (t 8))]) (.cond (t 9) .skip (.exit 0))) (.seq (.block 1 (.seq (.region false [s 12 (.mv (t 0)), s 13 (.mv (t 5)), s 14 (.iadr 2 (t 12) (t 13)), s 15 (.fadr 0 (t 14)), s 16 (.load false 1 (t 15)), s 17 (.mv (t 1)), s 18 (.call 68 [(t 16), (t 17)]), s 1 (.mv (t 18))]) (.region false [s 19 (.mv (t 0)), s 20 (.mv (t 5)), s 21 (.iadr 2 (t 19) (t 20)), s 22 (.fadr 1 (t 21)), s 23 (.load false 1 (t 22)), s 24 (.mv (t 1)), s 25 (.call 12 [(t 23), (t 24)]), s 1 (.mv (t 25))]))) (.region false [s 10 (.mv (t 5)), s 11 (.bin .add (t 10) (.const (.int .i64 1))), s 5 (.mv (t 11))])))))) (.seq (.region false [s 26 (.mv (t 1)), s 4 (.mv (t 26))]) .ret)))
def markTokenS.keep : List Nat := [0, 1, 4, 5]
def markTokenS.res : List RRes := [.tmp 4]
theorem markTokenS.ofT {mo : Bool} {b0 : List ABox} {x' : Tr} {args : List AV} {r : AV} (hr : isScalR r = true) (hn : Nat.ble args.length Try.f105.ntmps = true) (hx : nb x' = b0.length) (h : aCode (Kn mo Try.prog) markTokenS.keep b0.length markTokenS.code (doneT markTokenS.res b0.length r (gb x' 0)) ⟨argEnv 0 args, b0, []⟩) : Abs.Turn mo Try.prog 105 b0 args r (gb x' 0) :=
  Abs.Turn.of_ir hr Try.func105 rfl (by kernel_rfl) (Nat.le_of_ble_eq_true hn) (by kernel_rfl) (by kernel_rfl) hx h
abbrev markTokenS.Turn (b0 : List ABox) (args : List AV) (r : AV) (b1 : List ABox) : Prop := Abs.Turn true Try.prog 105 b0 args r b1
def szAction.code : ACode := (.seq (.region false [s 2 (.box (t 0)), s 4 (.mv (.const (.int .i64 0)))]) (.seq (.region false [s 5 (.fadr 1 (t 2)), s 6 (.load true 2 (t 5)), s 7 (.mv (t 1)), s 8 (.call 124 [(t 6), (t 7)]), s 1 (.mv (t 8))]) (.seq (.seq (.region false [s 9 (.mv (t 1)), s 10 (.bin .lss (t 9) (.const (.int .i64 0)))]) (.cond (t 10) (.seq (.region false [s 4 (.mv (.const (.int .i64 (-1))))]) .ret) .skip)) (.seq (.region false [s 11 (.mv (t 1)), s 4 (.mv (t 11))]) .ret))))
def szAction.keep : List Nat := [0, 1, 2, 4]
def szAction.res : List RRes := [.tmp 4]
theorem szAction.of {mo : Bool} {args : List AV} {r : AV} {frs : Fr} (hn : Nat.ble args.length Try.f143.ntmps = true) (h : aCode (Kn mo Try.prog) szAction.keep 0 szAction.code (doneK szAction.res r frs) ⟨argEnv 0 args, [], []⟩) : Abs.Ret mo Try.prog 143 args r frs :=
  Abs.Ret.of_ir Try.func143 rfl (by kernel_rfl) (Nat.le_of_ble_eq_true hn) (by kernel_rfl) (by kernel_rfl) h
abbrev szAction.Ret (args : List AV) (r : AV) (frs : Fr) : Prop := Abs.Ret true Try.prog 143 args r frs
def szActionS.code : ACode := (.seq (.region false [s 4 (.mv (.const (.int .i64 0)))]) (.seq (.region false [s 6 (.mv (t 1)), s 7 (.mv (t 0)), s 8 (.len false (t 7)), s 9 (.bin .sub (t 6) (t 8)), s 1 (.mv (t 9))]) (.seq (.seq (.region false [s 10 (.mv (t 1)), s 11 (.bin .lss (t 10) (.const (.int .i64 0)))]) (.cond (t 11) (.seq (.region false [s 4 (.mv (.const (.int .i64 (-1))))]) .ret) .skip)) (.seq (.seq (.region false [s 5 (.mv (.const (.int .i64 0)))]) (.block 0 (.loop (.seq (.seq (.region false [s 12 (.mv (t 5)), s 13 (.mv (t 0)), s 14 (.len false (t 13)), s 15 (.bin .lss (t 12) (t 14))]) (.cond (t 15) .skip (.exit 0))) (.seq (.block 1 (.seq (.region false [s 18 (.mv (t 0)), s 19 (.mv (t 5)), s 20 (.iadr 3 (t 18) (t 19)), s 21 (.load true 3 (t 20)), s 22 (.mv (t 1)), s 23 (.call 143 [(t 21), (t 22)]), s 1 (.mv (t 23))]) (.seq (.region false [s 24 (.mv (t 1)), s 25 (.bin .lss (t 24) (.const (.int .i64 0)))]) (.cond (t 25) (.seq (.region false [s 4 (.mv (.const (.int .i64 (-1))))]) .ret) .skip)))) (.region false [s 16 (.mv (t 5)), s 17 (.bin .add (t 16) (.const (.int .i64 1))), s 5 (.mv (t 17))])))))) (.seq (.region false [s 26 (.mv (t 1)), s 4 (.mv (t 26))]) .ret)))))
def szActionS.keep : List Nat := [0, 1, 4, 5]
def szActionS.res : List RRes := [.tmp 4]
theorem szActionS.of {mo : Bool} {args : List AV} {r : AV} {frs : Fr} (hn : Nat.ble args.length Try.f123.ntmps = true) (h : aCode (Kn mo Try.prog) szActionS.keep 0 szActionS.code (doneK szActionS.res r frs) ⟨argEnv 0 args, [], []⟩) : Abs.Ret mo Try.prog 123 args r frs :=
  Abs.Ret.of_ir Try.func123 rfl (by kernel_rfl) (Nat.le_of_ble_eq_true hn) (by kernel_rfl) (by kernel_rfl) h
abbrev szActionS.Ret (args : List AV) (r : AV) (frs : Fr) : Prop := Abs.Ret true Try.prog 123 args r frs
def szAlpha.code : ACode := (.seq (.region false [s 2 (.box (t 0)), s 4 (.mv (.const (.int .i64 0)))]) (.seq (.region false [s 5 (.fadr 0 (t 2)), s 6 (.load true 2 (t 5)), s 7 (.mv (t 1)), s 8 (.call 124 [(t 6), (t 7)]), s 1 (.mv (t 8))]) (.seq (.seq (.region false [s 9 (.mv (t 1)), s 10 (.bin .lss (t 9) (.const (.int .i64 0)))]) (.cond (t 10) (.seq (.region false [s 4 (.mv (.const (.int .i64 (-1))))]) .ret) .skip)) (.seq (.region false [s 11 (.fadr 2 (t 2)), s 12 (.load false 1 (t 11)), s 13 (.mv (t 1)), s 14 (.call 48 [(t 12), (t 13)]), s 1 (.mv (t 14))]) (.seq (.seq (.region false [s 15 (.mv (t 1)), s 16 (.bin .lss (t 15) (.const (.int .i64 0)))]) (.cond (t 16) (.seq (.region false [s 4 (.mv (.const (.int .i64 (-1))))]) .ret) .skip)) (.seq (.region false [s 17 (.mv (t 1)), s 4 (.mv (t 17))]) .ret))))))
def szAlpha.keep : List Nat := [0, 1, 2, 4]
def szAlpha.res : List RRes := [.tmp 4]
theorem szAlpha.of {mo : Bool} {args : List AV} {r : AV} {frs : Fr} (hn : Nat.ble args.length Try.f90.ntmps = true) (h : aCode (Kn mo Try.prog) szAlpha.keep 0 szAlpha.code (doneK szAlpha.res r frs) ⟨argEnv 0 args, [], []⟩) : Abs.Ret mo Try.prog 90 args r frs :=
  Abs.Ret.of_ir Try.func90 rfl (by kernel_rfl) (Nat.le_of_ble_eq_true hn) (by kernel_rfl) (by kernel_rfl) h
abbrev szAlpha.Ret (args : List AV) (r : AV) (frs : Fr) : Prop := Abs.Ret true Try.prog 90 args r frs
def szAlphaS.code : ACode := (.seq (.region false [s 4 (.mv (.const (.int .i64 0)))]) (.seq (.region false [s 6 (.mv (t 1)), s 7 (.mv (t 0)), s 8 (.len false (t 7)), s 9 (.bin .sub (t 6) (t 8)), s 1 (.mv (t 9))]) (.seq (.seq (.region false [s 10 (.mv (t 1)), s 11 (.bin .lss (t 10) (.const (.int .i64 0)))]) (.cond (t 11) (.seq (.region false [s 4 (.mv (.const (.int .i64 (-1))))]) .ret) .skip)) (.seq (.seq (.region false [s 5 (.mv (.const (.int .i64 0)))]) (.block 0 (.loop (.seq (.seq (.region false [s 12 (.mv (t 5)), s 13 (.mv (t 0)), s 14 (.len false (t 13)), s 15 (.bin .lss (t 12) (t 14))]) (.cond (t 15) .skip (.exit 0))) (.seq (.block 1 (.seq (.region false [s 18 (.mv (t 0)), s 19 (.mv (t 5)), s 20 (.iadr 3 (t 18) (t 19)), s 21 (.load true 3 (t 20)), s 22 (.mv (t 1)), s 23 (.call 90 [(t 21), (t 22)]), s 1 (.mv (t 23))]) (.seq (.region false [s 24 (.mv (t 1)), s 25 (.bin .lss (t 24) (.const (.int .i64 0)))]) (.cond (t 25) (.seq (.region false [s 4 (.mv (.const (.int .i64 (-1))))]) .ret) .skip)))) (.region false [s 16 (.mv (t 5)), s 17 (.bin .add (t 16) (.const (.int .i64 1))), s 5 (.mv (t 17))])))))) (.seq (.region false [s 26 (.mv (t 1)), s 4 (.mv (t 26))]) .ret)))))
def szAlphaS.keep : List Nat := [0, 1, 4, 5]
def szAlphaS.res : List RRes := [.tmp 4]
theorem szAlphaS.of {mo : Bool} {args : List AV} {r : AV} {frs : Fr} (hn : Nat.ble args.length Try.f46.ntmps = true) (h : aCode (Kn mo Try.prog) szAlphaS.keep 0 szAlphaS.code (doneK szAlphaS.res r frs) ⟨argEnv 0 args, [], []⟩) : Abs.Ret mo Try.prog 46 args r frs :=
  Abs.Ret.of_ir Try.func46 rfl (by kernel_rfl) (Nat.le_of_ble_eq_true hn) (by kernel_rfl) (by kernel_rfl) h
abbrev szAlphaS.Ret (args : List AV) (r : AV) (frs : Fr) : Prop := Abs.Ret true Try.prog 46 args r frs
def szCond.code : ACode := (.seq (.region false [s 2 (.box (t 0)), s 4 (.mv (.const (.int .i64 0)))]) (.seq (.region false [s 5 (.fadr 1 (t 2)), s 6 (.load true 2 (t 5)), s 7 (.mv (t 1)), s 8 (.call 124 [(t 6), (t 7)]), s 1 (.mv (t 8))]) (.seq (.seq (.region false [s 9 (.mv (t 1)), s 10 (.bin .lss (t 9) (.const (.int .i64 0)))]) (.cond (t 10) (.seq (.region false [s 4 (.mv (.const (.int .i64 (-1))))]) .ret) .skip)) (.seq (.region false [s 11 (.mv (t 1)), s 12 (.fadr 3 (t 2)), s 13 (.load false 1 (t 12)), s 14 (.len true (t 13)), s 15 (.bin .sub (t 11) (t 14)), s 1 (.mv (t 15))]) (.seq (.seq (.region false [s 16 (.mv (t 1)), s 17 (.bin .lss (t 16) (.const (.int .i64 0)))]) (.cond (t 17) (.seq (.region false [s 4 (.mv (.const (.int .i64 (-1))))]) .ret) .skip)) (.seq (.region false [s 18 (.mv (t 1)), s 19 (.fadr 4 (t 2)), s 20 (.load false 1 (t 19)), s 21 (.len true (t 20)), s 22 (.bin .sub (t 18) (t 21)), s 1 (.mv (t 22))]) (.seq (.seq (.region false [s 23 (.mv (t 1)), s 24 (.bin .lss (t 23) (.const (.int .i64 0)))]) (.cond (t 24) (.seq (.region false [s 4 (.mv (.const (.int .i64 (-1))))]) .ret) .skip)) (.seq (.region false [s 25 (.mv (t 1)), s 4 (.mv (t 25))]) .ret))))))))
def szCond.keep : List Nat := [0, 1, 2, 4]
def szCond.res : List RRes := [.tmp 4]
theorem szCond.of {mo : Bool} {args : List AV} {r : AV} {frs : Fr} (hn : Nat.ble args.length Try.f125.ntmps = true) (h : aCode (Kn mo Try.prog) szCond.keep 0 szCond.code (doneK szCond.res r frs) ⟨argEnv 0 args, [], []⟩) : Abs.Ret mo Try.prog 125 args r frs :=
  Abs.Ret.of_ir Try.func125 rfl (by kernel_rfl) (Nat.le_of_ble_eq_true hn) (by kernel_rfl) (by kernel_rfl) h
abbrev szCond.Ret (args : List AV) (r : AV) (frs : Fr) : Prop := Abs.Ret true Try.prog 125 args r frs
def szCondS.code : ACode := (.seq (.region false [s 4 (.mv (.const (.int .i64 0)))]) (.seq (.region false [s 6 (.mv (t 1)), s 7 (.mv (t 0)), s 8 (.len false (t 7)), s 9 (.bin .sub (t 6) (t 8)), s 1 (.mv (t 9))]) (.seq (.seq (.region false [s 10 (.mv (t 1)), s 11 (.bin .lss (t 10) (.const (.int .i64 0)))]) (.cond (t 11) (.seq (.region false [s 4 (.mv (.const (.int .i64 (-1))))]) .ret) .skip)) (.seq (.seq (.region false [s 5 (.mv (.const (.int .i64 0)))]) (.block 0 (.loop (.seq (.seq (.region false [s 12 (.mv (t 5)), s 13 (.mv (t 0)), s 14 (.len false (t 13)), s 15 (.bin .lss (t 12) (t 14))]) (.cond (t 15) .skip (.exit 0))) (.seq (.block 1 (.seq (.region false [s 18 (.mv (t 0)), s 19 (.mv (t 5)), s 20 (.iadr 5 (t 18) (t 19)), s 21 (.load true 5 (t 20)), s 22 (.mv (t 1)), s 23 (.call 125 [(t 21), (t 22)]), s 1 (.mv (t 23))]) (.seq (.region false [s 24 (.mv (t 1)), s 25 (.bin .lss (t 24) (.const (.int .i64 0)))]) (.cond (t 25) (.seq (.region false [s 4 (.mv (.const (.int .i64 (-1))))]) .ret) .skip)))) (.region false [s 16 (.mv (t 5)), s 17 (.bin .add (t 16) (.const (.int .i64 1))), s 5 (.mv (t 17))])))))) (.seq (.region false [s 26 (.mv (t 1)), s 4 (.mv (t 26))]) .ret)))))
def szCondS.keep : List Nat := [0, 1, 4, 5]
def szCondS.res : List RRes := [.tmp 4]
theorem szCondS.of {mo : Bool} {args : List AV} {r : AV} {frs : Fr} (hn : Nat.ble args.length Try.f122.ntmps = true) (h : aCode (Kn mo Try.prog) szCondS.keep 0 szCondS.code (doneK szCondS.res r frs) ⟨argEnv 0 args, [], []⟩) : Abs.Ret mo Try.prog 122 args r frs :=
  Abs.Ret.of_ir Try.func122 rfl (by kernel_rfl) (Nat.le_of_ble_eq_true hn) (by kernel_rfl) (by kernel_rfl) h
abbrev szCondS.Ret (args : List AV) (r : AV) (frs : Fr) : Prop := Abs.Ret true Try.prog 122 args r frs
def szFact.code : ACode := (.seq (.region false [s 2 (.box (t 0)), s 4 (.mv (.const (.int .i64 0)))]) (.seq (.region false [s 5 (.mv (t 1)), s 6 (.fadr 0 (t 2)), s 7 (.load false 1 (t 6)), s 8 (.len true (t 7)), s 9 (.bin .sub (t 5) (t 8)), s 1 (.mv (t 9))]) (.seq (.seq (.region false [s 10 (.mv (t 1)), s 11 (.bin .lss (t 10) (.const (.int .i64 0)))]) (.cond (t 11) (.seq (.region false [s 4 (.mv (.const (.int .i64 (-1))))]) .ret) .skip)) (.seq (.region false [s 12 (.fadr 1 (t 2)), s 13 (.load false 1 (t 12)), s 14 (.mv (t 1)), s 15 (.call 127 [(t 13), (t 14)]), s 1 (.mv (t 15))]) (.seq (.seq (.region false [s 16 (.mv (t 1)), s 17 (.bin .lss (t 16) (.const (.int .i64 0)))]) (.cond (t 17) (.seq (.region false [s 4 (.mv (.const (.int .i64 (-1))))]) .ret) .skip)) (.seq (.region false [s 18 (.mv (t 1)), s 4 (.mv (t 18))]) .ret))))))
def szFact.keep : List Nat := [0, 1, 2, 4]
def szFact.res : List RRes := [.tmp 4]
theorem szFact.of {mo : Bool} {args : List AV} {r : AV} {frs : Fr} (hn : Nat.ble args.length Try.f92.ntmps = true) (h : aCode (Kn mo Try.prog) szFact.keep 0 szFact.code (doneK szFact.res r frs) ⟨argEnv 0 args, [], []⟩) : Abs.Ret mo Try.prog 92 args r frs :=
  Abs.Ret.of_ir Try.func92 rfl (by kernel_rfl) (Nat.le_of_ble_eq_true hn) (by kernel_rfl) (by kernel_rfl) h
abbrev szFact.Ret (args : List AV) (r : AV) (frs : Fr) : Prop := Abs.Ret true Try.prog 92 args r frs
def szFactS.code : ACode := (.seq (.region false [s 4 (.mv (.const (.int .i64 0)))]) (.seq (.region false [s 6 (.mv (t 1)), s 7 (.mv (t 0)), s 8 (.len false (t 7)), s 9 (.bin .sub (t 6) (t 8)), s 1 (.mv (t 9))]) (.seq (.seq (.region false [s 10 (.mv (t 1)), s 11 (.bin .lss (t 10) (.const (.int .i64 0)))]) (.cond (t 11) (.seq (.region false [s 4 (.mv (.const (.int .i64 (-1))))]) .ret) .skip)) (.seq (.seq (.region false [s 5 (.mv (.const (.int .i64 0)))]) (.block 0 (.loop (.seq (.seq (.region false [s 12 (.mv (t 5)), s 13 (.mv (t 0)), s 14 (.len false (t 13)), s 15 (.bin .lss (t 12) (t 14))]) (.cond (t 15) .skip (.exit 0))) (.seq (.block 1 (.seq (.region false [s 18 (.mv (t 0)), s 19 (.mv (t 5)), s 20 (.iadr 2 (t 18) (t 19)), s 21 (.load true 2 (t 20)), s 22 (.mv (t 1)), s 23 (.call 92 [(t 21), (t 22)]), s 1 (.mv (t 23))]) (.seq (.region false [s 24 (.mv (t 1)), s 25 (.bin .lss (t 24) (.const (.int .i64 0)))]) (.cond (t 25) (.seq (.region false [s 4 (.mv (.const (.int .i64 (-1))))]) .ret) .skip)))) (.region false [s 16 (.mv (t 5)), s 17 (.bin .add (t 16) (.const (.int .i64 1))), s 5 (.mv (t 17))])))))) (.seq (.region false [s 26 (.mv (t 1)), s 4 (.mv (t 26))]) .ret)))))
def szFactS.keep : List Nat := [0, 1, 4, 5]
def szFactS.res : List RRes := [.tmp 4]
theorem szFactS.of {mo : Bool} {args : List AV} {r : AV} {frs : Fr} (hn : Nat.ble args.length Try.f48.ntmps = true) (h : aCode (Kn mo Try.prog) szFactS.keep 0 szFactS.code (doneK szFactS.res r frs) ⟨argEnv 0 args, [], []⟩) : Abs.Ret mo Try.prog 48 args r frs :=
  Abs.Ret.of_ir Try.func48 rfl (by kernel_rfl) (Nat.le_of_ble_eq_true hn) (by kernel_rfl) (by kernel_rfl) h
abbrev szFactS.Ret (args : List AV) (r : AV) (frs : Fr) : Prop := Abs.Ret true Try.prog 48 args r frs
def szIntS.code : ACode := (.seq (.region false [s 4 (.mv (.const (.int .i64 0)))]) (.seq (.region false [s 5 (.mv (t 1)), s 6 (.mv (t 0)), s 7 (.len false (t 6)), s 8 (.bin .sub (t 5) (t 7)), s 1 (.mv (t 8))]) (.seq (.seq (.region false [s 9 (.mv (t 1)), s 10 (.bin .lss (t 9) (.const (.int .i64 0)))]) (.cond (t 10) (.seq (.region false [s 4 (.mv (.const (.int .i64 (-1))))]) .ret) .skip)) (.seq (.region false [s 11 (.mv (t 1)), s 4 (.mv (t 11))]) .ret))))
def szIntS.keep : List Nat := [0, 1, 4]
def szIntS.res : List RRes := [.tmp 4]
theorem szIntS.of {mo : Bool} {args : List AV} {r : AV} {frs : Fr} (hn : Nat.ble args.length Try.f45.ntmps = true) (h : aCode (Kn mo Try.prog) szIntS.keep 0 szIntS.code (doneK szIntS.res r frs) ⟨argEnv 0 args, [], []⟩) : Abs.Ret mo Try.prog 45 args r frs :=
  Abs.Ret.of_ir Try.func45 rfl (by kernel_rfl) (Nat.le_of_ble_eq_true hn) (by kernel_rfl) (by kernel_rfl) h
abbrev szIntS.Ret (args : List AV) (r : AV) (frs : Fr) : Prop := Abs.Ret true Try.prog 45 args r frs
def szNetwork.code : ACode := (.seq (.region false [s 2 (.box (t 0)), s 4 (.mv (.const (.int .i64 0)))]) (.seq (.region false [s 5 (.fadr 0 (t 2)), s 6 (.load false 1 (t 5)), s 7 (.mv (t 1)), s 8 (.call 44 [(t 6), (t 7)]), s 1 (.mv (t 8))]) (.seq (.seq (.region false [s 9 (.mv (t 1)), s 10 (.bin .lss (t 9) (.const (.int .i64 0)))]) (.cond (t 10) (.seq (.region false [s 4 (.mv (.const (.int .i64 (-1))))]) .ret) .skip)) (.seq (.region false [s 11 (.fadr 1 (t 2)), s 12 (.load false 1 (t 11)), s 13 (.mv (t 1)), s 14 (.call 45 [(t 12), (t 13)]), s 1 (.mv (t 14))]) (.seq (.seq (.region false [s 15 (.mv (t 1)), s 16 (.bin .lss (t 15) (.const (.int .i64 0)))]) (.cond (t 16) (.seq (.region false [s 4 (.mv (.const (.int .i64 (-1))))]) .ret) .skip)) (.seq (.region false [s 17 (.fadr 2 (t 2)), s 18 (.load false 1 (t 17)), s 19 (.mv (t 1)), s 20 (.call 46 [(t 18), (t 19)]), s 1 (.mv (t 20))]) (.seq (.seq (.region false [s 21 (.mv (t 1)), s 22 (.bin .lss (t 21) (.const (.int .i64 0)))]) (.cond (t 22) (.seq (.region false [s 4 (.mv (.const (.int .i64 (-1))))]) .ret) .skip)) (.seq (.region false [s 23 (.fadr 3 (t 2)), s 24 (.load false 1 (t 23)), s 25 (.mv (t 1)), s 26 (.call 47 [(t 24), (t 25)]), s 1 (.mv (t 26))]) (.seq (.seq (.region false [s 27 (.mv (t 1)), s 28 (.bin .lss (t 27) (.const (.int .i64 0)))]) (.cond (t 28) (.seq (.region false [s 4 (.mv (.const (.int .i64 (-1))))]) .ret) .skip)) (.seq (.region false [s 29 (.fadr 4 (t 2)), s 30 (.load false 1 (t 29)), s 31 (.mv (t 1)), s 32 (.call 48 [(t 30), (t 31)]), s 1 (.mv (t 32))]) (.seq (.seq (.region false [s 33 (.mv (t 1)), s 34 (.bin .lss (t 33) (.const (.int .i64 0)))]) (.cond (t 34) (.seq (.region false [s 4 (.mv (.const (.int .i64 (-1))))]) .ret) .skip)) (.seq (.region false [s 35 (.mv (t 1)), s 4 (.mv (t 35))]) .ret))))))))))))
def szNetwork.keep : List Nat := [0, 1, 2, 4]
def szNetwork.res : List RRes := [.tmp 4]
theorem szNetwork.of {mo : Bool} {args : List AV} {r : AV} {frs : Fr} (hn : Nat.ble args.length Try.f14.ntmps = true) (h : aCode (Kn mo Try.prog) szNetwork.keep 0 szNetwork.code (doneK szNetwork.res r frs) ⟨argEnv 0 args, [], []⟩) : Abs.Ret mo Try.prog 14 args r frs :=
  Abs.Ret.of_ir Try.func14 rfl (by kernel_rfl) (Nat.le_of_ble_eq_true hn) (by kernel_rfl) (by kernel_rfl) h
abbrev szNetwork.Ret (args : List AV) (r : AV) (frs : Fr) : Prop := Abs.Ret true Try.prog 14 args r frs
def szNode.code : ACode := (.seq (.region false [s 2 (.box (t 0)), s 4 (.mv (.const (.int .i64 0)))]) (.seq (.region false [s 5 (.fadr 1 (t 2)), s 6 (.load true 5 (t 5)), s 7 (.mv (t 1)), s 8 (.call 125 [(t 6), (t 7)]), s 1 (.mv (t 8))]) (.seq (.seq (.region false [s 9 (.mv (t 1)), s 10 (.bin .lss (t 9) (.const (.int .i64 0)))]) (.cond (t 10) (.seq (.region false [s 4 (.mv (.const (.int .i64 (-1))))]) .ret) .skip)) (.seq (.region false [s 11 (.fadr 7 (t 2)), s 12 (.load false 1 (t 11)), s 13 (.mv (t 1)), s 14 (.call 126 [(t 12), (t 13)]), s 1 (.mv (t 14))]) (.seq (.seq (.region false [s 15 (.mv (t 1)), s 16 (.bin .lss (t 15) (.const (.int .i64 0)))]) (.cond (t 16) (.seq (.region false [s 4 (.mv (.const (.int .i64 (-1))))]) .ret) .skip)) (.seq (.region false [s 17 (.mv (t 1)), s 4 (.mv (t 17))]) .ret))))))
def szNode.keep : List Nat := [0, 1, 2, 4]
def szNode.res : List RRes := [.tmp 4]
theorem szNode.of {mo : Bool} {args : List AV} {r : AV} {frs : Fr} (hn : Nat.ble args.length Try.f91.ntmps = true) (h : aCode (Kn mo Try.prog) szNode.keep 0 szNode.code (doneK szNode.res r frs) ⟨argEnv 0 args, [], []⟩) : Abs.Ret mo Try.prog 91 args r frs :=
  Abs.Ret.of_ir Try.func91 rfl (by kernel_rfl) (Nat.le_of_ble_eq_true hn) (by kernel_rfl) (by kernel_rfl) h
abbrev szNode.Ret (args : List AV) (r : AV) (frs : Fr) : Prop := Abs.Ret true Try.prog 91 args r frs
def szNodeS.code : ACode := (.seq (.region false [s 4 (.mv (.const (.int .i64 0)))]) (.seq (.region false [s 6 (.mv (t 1)), s 7 (.mv (t 0)), s 8 (.len false (t 7)), s 9 (.bin .sub (t 6) (t 8)), s 1 (.mv (t 9))]) (.seq (.seq (.region false [s 10 (.mv (t 1)), s 11 (.bin .lss (t 10) (.const (.int .i64 0)))]) (.cond (t 11) (.seq (.region false [s 4 (.mv (.const (.int .i64 (-1))))]) .ret) .skip)) (.seq (.seq (.region false [s 5 (.mv (.const (.int .i64 0)))]) (.block 0 (.loop (.seq (.seq (.region false [s 12 (.mv (t 5)), s 13 (.mv (t 0)), s 14 (.len false (t 13)), s 15 (.bin .lss (t 12) (t 14))]) (.cond (t 15) .skip (.exit 0))) (.seq (.block 1 (.seq (.region false [s 18 (.mv (t 0)), s 19 (.mv (t 5)), s 20 (.iadr 8 (t 18) (t 19)), s 21 (.load true 8 (t 20)), s 22 (.mv (t 1)), s 23 (.call 91 [(t 21), (t 22)]), s 1 (.mv (t 23))]) (.seq (.region false [s 24 (.mv (t 1)), s 25 (.bin .lss (t 24) (.const (.int .i64 0)))]) (.cond (t 25) (.seq (.region false [s 4 (.mv (.const (.int .i64 (-1))))]) .ret) .skip)))) (.region false [s 16 (.mv (t 5)), s 17 (.bin .add (t 16) (.const (.int .i64 1))), s 5 (.mv (t 17))])))))) (.seq (.region false [s 26 (.mv (t 1)), s 4 (.mv (t 26))]) .ret)))))
def szNodeS.keep : List Nat := [0, 1, 4, 5]
def szNodeS.res : List RRes := [.tmp 4]
theorem szNodeS.of {mo : Bool} {args : List AV} {r : AV} {frs : Fr} (hn : Nat.ble args.length Try.f47.ntmps = true) (h : aCode (Kn mo Try.prog) szNodeS.keep 0 szNodeS.code (doneK szNodeS.res r frs) ⟨argEnv 0 args, [], []⟩) : Abs.Ret mo Try.prog 47 args r frs :=
  Abs.Ret.of_ir Try.func47 rfl (by kernel_rfl) (Nat.le_of_ble_eq_true hn) (by kernel_rfl) (by kernel_rfl) h
abbrev szNodeS.Ret (args : List AV) (r : AV) (frs : Fr) : Prop := Abs.Ret true Try.prog 47 args r frs
def szPair.code : ACode := (.seq (.region false [s 2 (.box (t 0)), s 4 (.mv (.const (.int .i64 0)))]) (.seq (.region false [s 5 (.mv (t 1)), s 6 (.fadr 0 (t 2)), s 7 (.load false 1 (t 6)), s 8 (.len true (t 7)), s 9 (.bin .sub (t 5) (t 8)), s 1 (.mv (t 9))]) (.seq (.seq (.region false [s 10 (.mv (t 1)), s 11 (.bin .lss (t 10) (.const (.int .i64 0)))]) (.cond (t 11) (.seq (.region false [s 4 (.mv (.const (.int .i64 (-1))))]) .ret) .skip)) (.seq (.region false [s 12 (.mv (t 1)), s 13 (.fadr 1 (t 2)), s 14 (.load false 1 (t 13)), s 15 (.len true (t 14)), s 16 (.bin .sub (t 12) (t 15)), s 1 (.mv (t 16))]) (.seq (.seq (.region false [s 17 (.mv (t 1)), s 18 (.bin .lss (t 17) (.const (.int .i64 0)))]) (.cond (t 18) (.seq (.region false [s 4 (.mv (.const (.int .i64 (-1))))]) .ret) .skip)) (.seq (.region false [s 19 (.mv (t 1)), s 4 (.mv (t 19))]) .ret))))))
def szPair.keep : List Nat := [0, 1, 2, 4]
def szPair.res : List RRes := [.tmp 4]
theorem szPair.of {mo : Bool} {args : List AV} {r : AV} {frs : Fr} (hn : Nat.ble args.length Try.f27.ntmps = true) (h : aCode (Kn mo Try.prog) szPair.keep 0 szPair.code (doneK szPair.res r frs) ⟨argEnv 0 args, [], []⟩) : Abs.Ret mo Try.prog 27 args r frs :=
  Abs.Ret.of_ir Try.func27 rfl (by kernel_rfl) (Nat.le_of_ble_eq_true hn) (by kernel_rfl) (by kernel_rfl) h
abbrev szPair.Ret (args : List AV) (r : AV) (frs : Fr) : Prop := Abs.Ret true Try.prog 27 args r frs
def szPairS.code : ACode := (.seq (.region false [s 4 (.mv (.const (.int .i64 0)))]) (.seq (.region false [s 6 (.mv (t 1)), s 7 (.mv (t 0)), s 8 (.len false (t 7)), s 9 (.bin .sub (t 6) (t 8)), s 1 (.mv (t 9))]) (.seq (.seq (.region false [s 10 (.mv (t 1)), s 11 (.bin .lss (t 10) (.const (.int .i64 0)))]) (.cond (t 11) (.seq (.region false [s 4 (.mv (.const (.int .i64 (-1))))]) .ret) .skip)) (.seq (.seq (.region false [s 5 (.mv (.const (.int .i64 0)))]) (.block 0 (.loop (.seq (.seq (.region false [s 12 (.mv (t 5)), s 13 (.mv (t 0)), s 14 (.len false (t 13)), s 15 (.bin .lss (t 12) (t 14))]) (.cond (t 15) .skip (.exit 0))) (.seq (.block 1 (.seq (.region false [s 18 (.mv (t 0)), s 19 (.mv (t 5)), s 20 (.iadr 2 (t 18) (t 19)), s 21 (.load true 2 (t 20)), s 22 (.mv (t 1)), s 23 (.call 27 [(t 21), (t 22)]), s 1 (.mv (t 23))]) (.seq (.region false [s 24 (.mv (t 1)), s 25 (.bin .lss (t 24) (.const (.int .i64 0)))]) (.cond (t 25) (.seq (.region false [s 4 (.mv (.const (.int .i64 (-1))))]) .ret) .skip)))) (.region false [s 16 (.mv (t 5)), s 17 (.bin .add (t 16) (.const (.int .i64 1))), s 5 (.mv (t 17))])))))) (.seq (.region false [s 26 (.mv (t 1)), s 4 (.mv (t 26))]) .ret)))))
def szPairS.keep : List Nat := [0, 1, 4, 5]
def szPairS.res : List RRes := [.tmp 4]
theorem szPairS.of {mo : Bool} {args : List AV} {r : AV} {frs : Fr} (hn : Nat.ble args.length Try.f7.ntmps = true) (h : aCode (Kn mo Try.prog) szPairS.keep 0 szPairS.code (doneK szPairS.res r frs) ⟨argEnv 0 args, [], []⟩) : Abs.Ret mo Try.prog 7 args r frs :=
  Abs.Ret.of_ir Try.func7 rfl (by kernel_rfl) (Nat.le_of_ble_eq_true hn) (by kernel_rfl) (by kernel_rfl) h
abbrev szPairS.Ret (args : List AV) (r : AV) (frs : Fr) : Prop := Abs.Ret true Try.prog 7 args r frs
def szPattern.code : ACode := (.seq (.region false [s 2 (.box (t 0)), s 4 (.mv (.const (.int .i64 0)))]) (.seq (.region false [s 5 (.mv (t 1)), s 6 (.fadr 0 (t 2)), s 7 (.load false 1 (t 6)), s 8 (.len true (t 7)), s 9 (.bin .sub (t 5) (t 8)), s 1 (.mv (t 9))]) (.seq (.seq (.region false [s 10 (.mv (t 1)), s 11 (.bin .lss (t 10) (.const (.int .i64 0)))]) (.cond (t 11) (.seq (.region false [s 4 (.mv (.const (.int .i64 (-1))))]) .ret) .skip)) (.seq (.region false [s 12 (.fadr 1 (t 2)), s 13 (.load false 1 (t 12)), s 14 (.mv (t 1)), s 15 (.call 127 [(t 13), (t 14)]), s 1 (.mv (t 15))]) (.seq (.seq (.region false [s 16 (.mv (t 1)), s 17 (.bin .lss (t 16) (.const (.int .i64 0)))]) (.cond (t 17) (.seq (.region false [s 4 (.mv (.const (.int .i64 (-1))))]) .ret) .skip)) (.seq (.region false [s 18 (.mv (t 1)), s 4 (.mv (t 18))]) .ret))))))
def szPattern.keep : List Nat := [0, 1, 2, 4]
def szPattern.res : List RRes := [.tmp 4]
theorem szPattern.of {mo : Bool} {args : List AV} {r : AV} {frs : Fr} (hn : Nat.ble args.length Try.f124.ntmps = true) (h : aCode (Kn mo Try.prog) szPattern.keep 0 szPattern.code (doneK szPattern.res r frs) ⟨argEnv 0 args, [], []⟩) : Abs.Ret mo Try.prog 124 args r frs :=
  Abs.Ret.of_ir Try.func124 rfl (by kernel_rfl) (Nat.le_of_ble_eq_true hn) (by kernel_rfl) (by kernel_rfl) h
abbrev szPattern.Ret (args : List AV) (r : AV) (frs : Fr) : Prop := Abs.Ret true Try.prog 124 args r frs
def szRule.code : ACode := (.seq (.region false [s 2 (.box (t 0)), s 4 (.mv (.const (.int .i64 0)))]) (.seq (.region false [s 5 (.mv (t 1)), s 6 (.fadr 0 (t 2)), s 7 (.load false 1 (t 6)), s 8 (.len true (t 7)), s 9 (.bin .sub (t 5) (t 8)), s 1 (.mv (t 9))]) (.seq (.seq (.region false [s 10 (.mv (t 1)), s 11 (.bin .lss (t 10) (.const (.int .i64 0)))]) (.cond (t 11) (.seq (.region false [s 4 (.mv (.const (.int .i64 (-1))))]) .ret) .skip)) (.seq (.region false [s 12 (.fadr 2 (t 2)), s 13 (.load false 1 (t 12)), s 14 (.mv (t 1)), s 15 (.call 122 [(t 13), (t 14)]), s 1 (.mv (t 15))]) (.seq (.seq (.region false [s 16 (.mv (t 1)), s 17 (.bin .lss (t 16) (.const (.int .i64 0)))]) (.cond (t 17) (.seq (.region false [s 4 (.mv (.const (.int .i64 (-1))))]) .ret) .skip)) (.seq (.region false [s 18 (.fadr 3 (t 2)), s 19 (.load false 1 (t 18)), s 20 (.mv (t 1)), s 21 (.call 123 [(t 19), (t 20)]), s 1 (.mv (t 21))]) (.seq (.seq (.region false [s 22 (.mv (t 1)), s 23 (.bin .lss (t 22) (.const (.int .i64 0)))]) (.cond (t 23) (.seq (.region false [s 4 (.mv (.const (.int .i64 (-1))))]) .ret) .skip)) (.seq (.region false [s 24 (.mv (t 1)), s 4 (.mv (t 24))]) .ret))))))))
def szRule.keep : List Nat := [0, 1, 2, 4]
def szRule.res : List RRes := [.tmp 4]
theorem szRule.of {mo : Bool} {args : List AV} {r : AV} {frs : Fr} (hn : Nat.ble args.length Try.f89.ntmps = true) (h : aCode (Kn mo Try.prog) szRule.keep 0 szRule.code (doneK szRule.res r frs) ⟨argEnv 0 args, [], []⟩) : Abs.Ret mo Try.prog 89 args r frs :=
  Abs.Ret.of_ir Try.func89 rfl (by kernel_rfl) (Nat.le_of_ble_eq_true hn) (by kernel_rfl) (by kernel_rfl) h
abbrev szRule.Ret (args : List AV) (r : AV) (frs : Fr) : Prop := Abs.Ret true Try.prog 89 args r frs
def szRuleS.code : ACode := (.seq (.region false [s 4 (.mv (.const (.int .i64 0)))]) (.seq (.region false [s 6 (.mv (t 1)), s 7 (.mv (t 0)), s 8 (.len false (t 7)), s 9 (.bin .sub (t 6) (t 8)), s 1 (.mv (t 9))]) (.seq (.seq (.region false [s 10 (.mv (t 1)), s 11 (.bin .lss (t 10) (.const (.int .i64 0)))]) (.cond (t 11) (.seq (.region false [s 4 (.mv (.const (.int .i64 (-1))))]) .ret) .skip)) (.seq (.seq (.region false [s 5 (.mv (.const (.int .i64 0)))]) (.block 0 (.loop (.seq (.seq (.region false [s 12 (.mv (t 5)), s 13 (.mv (t 0)), s 14 (.len false (t 13)), s 15 (.bin .lss (t 12) (t 14))]) (.cond (t 15) .skip (.exit 0))) (.seq (.block 1 (.seq (.region false [s 18 (.mv (t 0)), s 19 (.mv (t 5)), s 20 (.iadr 4 (t 18) (t 19)), s 21 (.load true 4 (t 20)), s 22 (.mv (t 1)), s 23 (.call 89 [(t 21), (t 22)]), s 1 (.mv (t 23))]) (.seq (.region false [s 24 (.mv (t 1)), s 25 (.bin .lss (t 24) (.const (.int .i64 0)))]) (.cond (t 25) (.seq (.region false [s 4 (.mv (.const (.int .i64 (-1))))]) .ret) .skip)))) (.region false [s 16 (.mv (t 5)), s 17 (.bin .add (t 16) (.const (.int .i64 1))), s 5 (.mv (t 17))])))))) (.seq (.region false [s 26 (.mv (t 1)), s 4 (.mv (t 26))]) .ret)))))
def szRuleS.keep : List Nat := [0, 1, 4, 5]
def szRuleS.res : List RRes := [.tmp 4]
theorem szRuleS.of {mo : Bool} {args : List AV} {r : AV} {frs : Fr} (hn : Nat.ble args.length Try.f44.ntmps = true) (h : aCode (Kn mo Try.prog) szRuleS.keep 0 szRuleS.code (doneK szRuleS.res r frs) ⟨argEnv 0 args, [], []⟩) : Abs.Ret mo Try.prog 44 args r frs :=
  Abs.Ret.of_ir Try.func44 rfl (by kernel_rfl) (Nat.le_of_ble_eq_true hn) (by kernel_rfl) (by kernel_rfl) h
abbrev szRuleS.Ret (args : List AV) (r : AV) (frs : Fr) : Prop := Abs.Ret true Try.prog 44 args r frs
def szStringS.code : ACode := (.seq (.region false [s 4 (.mv (.const (.int .i64 0)))]) (.seq (.region false [s 6 (.mv (t 1)), s 7 (.mv (t 0)), s 8 (.len false (t 7)), s 9 (.bin .sub (t 6) (t 8)), s 1 (.mv (t 9))]) (.seq (.seq (.region false [s 10 (.mv (t 1)), s 11 (.bin .lss (t 10) (.const (.int .i64 0)))]) (.cond (t 11) (.seq (.region false [s 4 (.mv (.const (.int .i64 (-1))))]) .ret) .skip)) (.seq (.seq (.region false [s 5 (.mv (.const (.int .i64 0)))]) (.block 0 (.loop (.seq (.seq (.region false [s 12 (.mv (t 5)), s 13 (.mv (t 0)), s 14 (.len false (t 13)), s 15 (.bin .lss (t 12) (t 14))]) (.cond (t 15) .skip (.exit 0))) (.seq (.block 1 (.seq (.region false [s 18 (.mv (t 1)), s 19 (.mv (t 0)), s 20 (.mv (t 5)), s 21 (.iadr 1 (t 19) (t 20)), s 22 (.load false 1 (t 21)), s 23 (.len true (t 22)), s 24 (.bin .sub (t 18) (t 23)), s 1 (.mv (t 24))]) (.seq (.region false [s 25 (.mv (t 1)), s 26 (.bin .lss (t 25) (.const (.int .i64 0)))]) (.cond (t 26) (.seq (.region false [s 4 (.mv (.const (.int .i64 (-1))))]) .ret) .skip)))) (.region false [s 16 (.mv (t 5)), s 17 (.bin .add (t 16) (.const (.int .i64 1))), s 5 (.mv (t 17))])))))) (.seq (.region false [s 27 (.mv (t 1)), s 4 (.mv (t 27))]) .ret)))))
def szStringS.keep : List Nat := [0, 1, 4, 5]
def szStringS.res : List RRes := [.tmp 4]
theorem szStringS.of {mo : Bool} {args : List AV} {r : AV} {frs : Fr} (hn : Nat.ble args.length Try.f127.ntmps = true) (h : aCode (Kn mo Try.prog) szStringS.keep 0 szStringS.code (doneK szStringS.res r frs) ⟨argEnv 0 args, [], []⟩) : Abs.Ret mo Try.prog 127 args r frs :=
  Abs.Ret.of_ir Try.func127 rfl (by kernel_rfl) (Nat.le_of_ble_eq_true hn) (by kernel_rfl) (by kernel_rfl) h
abbrev szStringS.Ret (args : List AV) (r : AV) (frs : Fr) : Prop := Abs.Ret true Try.prog 127 args r frs
def szToken.code : ACode := (.seq (.region false [s 2 (.box (t 0)), s 4 (.mv (.const (.int .i64 0)))]) (.seq (.region false [s 5 (.fadr 0 (t 2)), s 6 (.load false 1 (t 5)), s 7 (.mv (t 1)), s 8 (.call 48 [(t 6), (t 7)]), s 1 (.mv (t 8))]) (.seq (.seq (.region false [s 9 (.mv (t 1)), s 10 (.bin .lss (t 9) (.const (.int .i64 0)))]) (.cond (t 10) (.seq (.region false [s 4 (.mv (.const (.int .i64 (-1))))]) .ret) .skip)) (.seq (.region false [s 11 (.fadr 1 (t 2)), s 12 (.load false 1 (t 11)), s 13 (.mv (t 1)), s 14 (.call 7 [(t 12), (t 13)]), s 1 (.mv (t 14))]) (.seq (.seq (.region false [s 15 (.mv (t 1)), s 16 (.bin .lss (t 15) (.const (.int .i64 0)))]) (.cond (t 16) (.seq (.region false [s 4 (.mv (.const (.int .i64 (-1))))]) .ret) .skip)) (.seq (.region false [s 17 (.mv (t 1)), s 4 (.mv (t 17))]) .ret))))))
def szToken.keep : List Nat := [0, 1, 2, 4]
def szToken.res : List RRes := [.tmp 4]
theorem szToken.of {mo : Bool} {args : List AV} {r : AV} {frs : Fr} (hn : Nat.ble args.length Try.f144.ntmps = true) (h : aCode (Kn mo Try.prog) szToken.keep 0 szToken.code (doneK szToken.res r frs) ⟨argEnv 0 args, [], []⟩) : Abs.Ret mo Try.prog 144 args r frs :=
  Abs.Ret.of_ir Try.func144 rfl (by kernel_rfl) (Nat.le_of_ble_eq_true hn) (by kernel_rfl) (by kernel_rfl) h
abbrev szToken.Ret (args : List AV) (r : AV) (frs : Fr) : Prop := Abs.Ret true Try.prog 144 args r frs
def szTokenS.code : ACode := (.seq (.region false [s 4 (.mv (.const (.int .i64 0)))]) (.seq (.region false [s 6 (.mv (t 1)), s 7 (.mv (t 0)), s 8 (.len false (t 7)), s 9 (.bin .sub (t 6) (t 8)), s 1 (.mv (t 9))]) (.seq (.seq (.region false [s 10 (.mv (t 1)), s 11 (.bin .lss (t 10) (.const (.int .i64 0)))]) (.cond (t 11) (.seq (.region false [s 4 (.mv (.const (.int .i64 (-1))))]) .ret) .skip)) (.seq (.seq (.region false [s 5 (.mv (.const (.int .i64 0)))]) (.block 0 (.loop (.seq (.seq (.region false [s 12 (.mv (t 5)), s 13 (.mv (t 0)), s 14 (.len false (t 13)), s 15 (.bin .lss (t 12) (t 14))]) (.cond (t 15) .skip (.exit 0))) (.seq (.block 1 (.seq (.region false [s 18 (.mv (t 0)), s 19 (.mv (t 5)), s 20 (.iadr 2 (t 18) (t 19)), s 21 (.load true 2 (t 20)), s 22 (.mv (t 1)), s 23 (.call 144 [(t 21), (t 22)]), s 1 (.mv (t 23))]) (.seq (.region false [s 24 (.mv (t 1)), s 25 (.bin .lss (t 24) (.const (.int .i64 0)))]) (.cond (t 25) (.seq (.region false [s 4 (.mv (.const (.int .i64 (-1))))]) .ret) .skip)))) (.region false [s 16 (.mv (t 5)), s 17 (.bin .add (t 16) (.const (.int .i64 1))), s 5 (.mv (t 17))])))))) (.seq (.region false [s 26 (.mv (t 1)), s 4 (.mv (t 26))]) .ret)))))
def szTokenS.keep : List Nat := [0, 1, 4, 5]
def szTokenS.res : List RRes := [.tmp 4]
theorem szTokenS.of {mo : Bool} {args : List AV} {r : AV} {frs : Fr} (hn : Nat.ble args.length Try.f126.ntmps = true) (h : aCode (Kn mo Try.prog) szTokenS.keep 0 szTokenS.code (doneK szTokenS.res r frs) ⟨argEnv 0 args, [], []⟩) : Abs.Ret mo Try.prog 126 args r frs :=
  Abs.Ret.of_ir Try.func126 rfl (by kernel_rfl) (Nat.le_of_ble_eq_true hn) (by kernel_rfl) (by kernel_rfl) h
abbrev szTokenS.Ret (args : List AV) (r : AV) (frs : Fr) : Prop := Abs.Ret true Try.prog 126 args r frs
def toAction.code : ACode := (.seq (.region false [s 1 (.box (t 0)), s 2 (.alloc [(.int .i64 (.ofNat 0)), (.string (.mk (.mk []))), (.slice none 0 0)])]) (.seq (.region false [s 3 (.alloc [(.int .i64 (.ofNat 0)), (.string (.mk (.mk []))), (.slice none 0 0)])]) (.seq (.region false [s 4 (.fadr 0 (t 1)), s 5 (.load false 1 (t 4)), s 6 (.fadr 0 (t 3)), ⟨none, none, (.store 1 (t 6) (t 5))⟩]) (.seq (.region false [s 7 (.fadr 1 (t 1)), s 8 (.load true 2 (t 7)), s 9 (.call 131 [(t 8)]), s 10 (.fadr 1 (t 3)), ⟨none, none, (.store 2 (t 10) (t 9))⟩]) (.seq (.region false [s 11 (.load true 3 (t 3)), ⟨none, none, (.store 3 (t 2) (t 11))⟩]) .ret)))))
def toAction.keep : List Nat := [0, 1, 2, 3]
def toAction.res : List RRes := [.cell 2 true 3]
theorem toAction.of {mo : Bool} {args : List AV} {r : AV} {frs : Fr} (hn : Nat.ble args.length Try.f145.ntmps = true) (h : aCode (Kn mo Try.prog) toAction.keep 0 toAction.code (doneK toAction.res r frs) ⟨argEnv 0 args, [], []⟩) : Abs.Ret mo Try.prog 145 args r frs :=
  Abs.Ret.of_ir Try.func145 rfl (by kernel_rfl) (Nat.le_of_ble_eq_true hn) (by kernel_rfl) (by kernel_rfl) h
abbrev toAction.Ret (args : List AV) (r : AV) (frs : Fr) : Prop := Abs.Ret true Try.prog 145 args r frs
def toActionS.code : ACode := (.seq (.region false [s 2 (.mv (.const (.slice none 0 0)))]) (.seq (.region false [s 5 (.mv (t 0)), s 6 (.len false (t 5)), s 7 (.make 152 [(.int .i64 (.ofNat 0)), (.string (.mk (.mk []))), (.slice none 0 0)] 3 48 (t 6)), s 3 (.mv (t 7))]) (.seq (.seq (.region false [s 4 (.mv (.const (.int .i64 0)))]) (.block 0 (.loop (.seq (.seq (.region false [s 8 (.mv (t 4)), s 9 (.mv (t 0)), s 10 (.len false (t 9)), s 11 (.bin .lss (t 8) (t 10))]) (.cond (t 11) .skip (.exit 0))) (.seq (.block 1 (.region false [s 14 (.mv (t 3)), s 15 (.mv (t 4)), s 16 (.mv (t 0)), s 17 (.mv (t 4)), s 18 (.iadr 3 (t 16) (t 17)), s 19 (.load true 3 (t 18)), s 20 (.call 145 [(t 19)]), s 21 (.iadr 3 (t 14) (t 15)), ⟨none, none, (.store 3 (t 21) (t 20))⟩])) (.region false [s 12 (.mv (t 4)), s 13 (.bin .add (t 12) (.const (.int .i64 1))), s 4 (.mv (t 13))])))))) (.seq (.region false [s 22 (.mv (t 3)), s 2 (.mv (t 22))]) .ret))))
def toActionS.keep : List Nat := [0, 2, 3, 4]
def toActionS.res : List RRes := [.tmp 2]
theorem toActionS.of {mo : Bool} {args : List AV} {r : AV} {frs : Fr} (hn : Nat.ble args.length Try.f130.ntmps = true) (h : aCode (Kn mo Try.prog) toActionS.keep 0 toActionS.code (doneK toActionS.res r frs) ⟨argEnv 0 args, [], []⟩) : Abs.Ret mo Try.prog 130 args r frs :=
  Abs.Ret.of_ir Try.func130 rfl (by kernel_rfl) (Nat.le_of_ble_eq_true hn) (by kernel_rfl) (by kernel_rfl) h
abbrev toActionS.Ret (args : List AV) (r : AV) (frs : Fr) : Prop := Abs.Ret true Try.prog 130 args r frs
def toAlpha.code : ACode := (.seq (.region false [s 1 (.box (t 0)), s 2 (.alloc [(.string (.mk (.mk []))), (.slice none 0 0), (.slice none 0 0)])]) (.seq (.region false [s 3 (.alloc [(.string (.mk (.mk []))), (.slice none 0 0), (.slice none 0 0)])]) (.seq (.region false [s 4 (.fadr 0 (t 1)), s 5 (.load true 2 (t 4)), s 6 (.call 131 [(t 5)]), s 7 (.fadr 0 (t 3)), ⟨none, none, (.store 2 (t 7) (t 6))⟩]) (.seq (.region false [s 8 (.fadr 2 (t 1)), s 9 (.load false 1 (t 8)), s 10 (.call 55 [(t 9)]), s 11 (.fadr 2 (t 3)), ⟨none, none, (.store 1 (t 11) (t 10))⟩]) (.seq (.region false [s 12 (.load true 3 (t 3)), ⟨none, none, (.store 3 (t 2) (t 12))⟩]) .ret)))))
def toAlpha.keep : List Nat := [0, 1, 2, 3]
def toAlpha.res : List RRes := [.cell 2 true 3]
theorem toAlpha.of {mo : Bool} {args : List AV} {r : AV} {frs : Fr} (hn : Nat.ble args.length Try.f95.ntmps = true) (h : aCode (Kn mo Try.prog) toAlpha.keep 0 toAlpha.code (doneK toAlpha.res r frs) ⟨argEnv 0 args, [], []⟩) : Abs.Ret mo Try.prog 95 args r frs :=
  Abs.Ret.of_ir Try.func95 rfl (by kernel_rfl) (Nat.le_of_ble_eq_true hn) (by kernel_rfl) (by kernel_rfl) h
abbrev toAlpha.Ret (args : List AV) (r : AV) (frs : Fr) : Prop := Abs.Ret true Try.prog 95 args r frs
def toAlphaS.code : ACode := (.seq (.region false [s 2 (.mv (.const (.slice none 0 0)))]) (.seq (.region false [s 5 (.mv (t 0)), s 6 (.len false (t 5)), s 7 (.make 106 [(.string (.mk (.mk []))), (.slice none 0 0), (.slice none 0 0)] 3 64 (t 6)), s 3 (.mv (t 7))]) (.seq (.seq (.region false [s 4 (.mv (.const (.int .i64 0)))]) (.block 0 (.loop (.seq (.seq (.region false [s 8 (.mv (t 4)), s 9 (.mv (t 0)), s 10 (.len false (t 9)), s 11 (.bin .lss (t 8) (t 10))]) (.cond (t 11) .skip (.exit 0))) (.seq (.block 1 (.region false [s 14 (.mv (t 3)), s 15 (.mv (t 4)), s 16 (.mv (t 0)), s 17 (.mv (t 4)), s 18 (.iadr 3 (t 16) (t 17)), s 19 (.load true 3 (t 18)), s 20 (.call 95 [(t 19)]), s 21 (.iadr 3 (t 14) (t 15)), ⟨none, none, (.store 3 (t 21) (t 20))⟩])) (.region false [s 12 (.mv (t 4)), s 13 (.bin .add (t 12) (.const (.int .i64 1))), s 4 (.mv (t 13))])))))) (.seq (.region false [s 22 (.mv (t 3)), s 2 (.mv (t 22))]) .ret))))
def toAlphaS.keep : List Nat := [0, 2, 3, 4]
def toAlphaS.res : List RRes := [.tmp 2]
theorem toAlphaS.of {mo : Bool} {args : List AV} {r : AV} {frs : Fr} (hn : Nat.ble args.length Try.f53.ntmps = true) (h : aCode (Kn mo Try.prog) toAlphaS.keep 0 toAlphaS.code (doneK toAlphaS.res r frs) ⟨argEnv 0 args, [], []⟩) : Abs.Ret mo Try.prog 53 args r frs :=
  Abs.Ret.of_ir Try.func53 rfl (by kernel_rfl) (Nat.le_of_ble_eq_true hn) (by kernel_rfl) (by kernel_rfl) h
abbrev toAlphaS.Ret (args : List AV) (r : AV) (frs : Fr) : Prop := Abs.Ret true Try.prog 53 args r frs
def toCond.code : ACode := (.seq (.region false [s 1 (.box (t 0)), s 2 (.alloc [(.int .i64 (.ofNat 0)), (.string (.mk (.mk []))), (.slice none 0 0), (.string (.mk (.mk []))), (.string (.mk (.mk [])))])]) (.seq (.region false [s 3 (.alloc [(.int .i64 (.ofNat 0)), (.string (.mk (.mk []))), (.slice none 0 0), (.string (.mk (.mk []))), (.string (.mk (.mk [])))])]) (.seq (.region false [s 4 (.fadr 0 (t 1)), s 5 (.load false 1 (t 4)), s 6 (.fadr 0 (t 3)), ⟨none, none, (.store 1 (t 6) (t 5))⟩]) (.seq (.region false [s 7 (.fadr 1 (t 1)), s 8 (.load true 2 (t 7)), s 9 (.call 131 [(t 8)]), s 10 (.fadr 1 (t 3)), ⟨none, none, (.store 2 (t 10) (t 9))⟩]) (.seq (.region false [s 11 (.fadr 3 (t 1)), s 12 (.load false 1 (t 11)), s 13 (.fadr 3 (t 3)), ⟨none, none, (.store 1 (t 13) (t 12))⟩]) (.seq (.region false [s 14 (.fadr 4 (t 1)), s 15 (.load false 1 (t 14)), s 16 (.fadr 4 (t 3)), ⟨none, none, (.store 1 (t 16) (t 15))⟩]) (.seq (.region false [s 17 (.load true 5 (t 3)), ⟨none, none, (.store 5 (t 2) (t 17))⟩]) .ret)))))))
def toCond.keep : List Nat := [0, 1, 2, 3]
def toCond.res : List RRes := [.cell 2 true 5]
theorem toCond.of {mo : Bool} {args : List AV} {r : AV} {frs : Fr} (hn : Nat.ble args.length Try.f132.ntmps = true) (h : aCode (Kn mo Try.prog) toCond.keep 0 toCond.code (doneK toCond.res r frs) ⟨argEnv 0 args, [], []⟩) : Abs.Ret mo Try.prog 132 args r frs :=
  Abs.Ret.of_ir Try.func132 rfl (by kernel_rfl) (Nat.le_of_ble_eq_true hn) (by kernel_rfl) (by kernel_rfl) h
abbrev toCond.Ret (args : List AV) (r : AV) (frs : Fr) : Prop := Abs.Ret true Try.prog 132 args r frs
def toCondS.code : ACode := (.seq (.region false [s 2 (.mv (.const (.slice none 0 0)))]) (.seq (.region false [s 5 (.mv (t 0)), s 6 (.len false (t 5)), s 7 (.make 83 [(.int .i64 (.ofNat 0)), (.string (.mk (.mk []))), (.slice none 0 0), (.string (.mk (.mk []))), (.string (.mk (.mk [])))] 5 80 (t 6)), s 3 (.mv (t 7))]) (.seq (.seq (.region false [s 4 (.mv (.const (.int .i64 0)))]) (.block 0 (.loop (.seq (.seq (.region false [s 8 (.mv (t 4)), s 9 (.mv (t 0)), s 10 (.len false (t 9)), s 11 (.bin .lss (t 8) (t 10))]) (.cond (t 11) .skip (.exit 0))) (.seq (.block 1 (.region false [s 14 (.mv (t 3)), s 15 (.mv (t 4)), s 16 (.mv (t 0)), s 17 (.mv (t 4)), s 18 (.iadr 5 (t 16) (t 17)), s 19 (.load true 5 (t 18)), s 20 (.call 132 [(t 19)]), s 21 (.iadr 5 (t 14) (t 15)), ⟨none, none, (.store 5 (t 21) (t 20))⟩])) (.region false [s 12 (.mv (t 4)), s 13 (.bin .add (t 12) (.const (.int .i64 1))), s 4 (.mv (t 13))])))))) (.seq (.region false [s 22 (.mv (t 3)), s 2 (.mv (t 22))]) .ret))))
def toCondS.keep : List Nat := [0, 2, 3, 4]
def toCondS.res : List RRes := [.tmp 2]
theorem toCondS.of {mo : Bool} {args : List AV} {r : AV} {frs : Fr} (hn : Nat.ble args.length Try.f129.ntmps = true) (h : aCode (Kn mo Try.prog) toCondS.keep 0 toCondS.code (doneK toCondS.res r frs) ⟨argEnv 0 args, [], []⟩) : Abs.Ret mo Try.prog 129 args r frs :=
  Abs.Ret.of_ir Try.func129 rfl (by kernel_rfl) (Nat.le_of_ble_eq_true hn) (by kernel_rfl) (by kernel_rfl) h
abbrev toCondS.Ret (args : List AV) (r : AV) (frs : Fr) : Prop := Abs.Ret true Try.prog 129 args r frs
def toFact.code : ACode := (.seq (.region false [s 1 (.box (t 0)), s 2 (.alloc [(.string (.mk (.mk []))), (.slice none 0 0)])]) (.seq (.region false [s 3 (.alloc [(.string (.mk (.mk []))), (.slice none 0 0)])]) (.seq (.region false [s 4 (.fadr 0 (t 1)), s 5 (.load false 1 (t 4)), s 6 (.fadr 0 (t 3)), ⟨none, none, (.store 1 (t 6) (t 5))⟩]) (.seq (.region false [s 7 (.fadr 1 (t 1)), s 8 (.load false 1 (t 7)), s 9 (.call 134 [(t 8)]), s 10 (.fadr 1 (t 3)), ⟨none, none, (.store 1 (t 10) (t 9))⟩]) (.seq (.region false [s 11 (.load true 2 (t 3)), ⟨none, none, (.store 2 (t 2) (t 11))⟩]) .ret)))))
def toFact.keep : List Nat := [0, 1, 2, 3]
def toFact.res : List RRes := [.cell 2 true 2]
theorem toFact.of {mo : Bool} {args : List AV} {r : AV} {frs : Fr} (hn : Nat.ble args.length Try.f97.ntmps = true) (h : aCode (Kn mo Try.prog) toFact.keep 0 toFact.code (doneK toFact.res r frs) ⟨argEnv 0 args, [], []⟩) : Abs.Ret mo Try.prog 97 args r frs :=
  Abs.Ret.of_ir Try.func97 rfl (by kernel_rfl) (Nat.le_of_ble_eq_true hn) (by kernel_rfl) (by kernel_rfl) h
abbrev toFact.Ret (args : List AV) (r : AV) (frs : Fr) : Prop := Abs.Ret true Try.prog 97 args r frs
def toFactS.code : ACode := (.seq (.region false [s 2 (.mv (.const (.slice none 0 0)))]) (.seq (.region false [s 5 (.mv (t 0)), s 6 (.len false (t 5)), s 7 (.make 144 [(.string (.mk (.mk []))), (.slice none 0 0)] 2 40 (t 6)), s 3 (.mv (t 7))]) (.seq (.seq (.region false [s 4 (.mv (.const (.int .i64 0)))]) (.block 0 (.loop (.seq (.seq (.region false [s 8 (.mv (t 4)), s 9 (.mv (t 0)), s 10 (.len false (t 9)), s 11 (.bin .lss (t 8) (t 10))]) (.cond (t 11) .skip (.exit 0))) (.seq (.block 1 (.region false [s 14 (.mv (t 3)), s 15 (.mv (t 4)), s 16 (.mv (t 0)), s 17 (.mv (t 4)), s 18 (.iadr 2 (t 16) (t 17)), s 19 (.load true 2 (t 18)), s 20 (.call 97 [(t 19)]), s 21 (.iadr 2 (t 14) (t 15)), ⟨none, none, (.store 2 (t 21) (t 20))⟩])) (.region false [s 12 (.mv (t 4)), s 13 (.bin .add (t 12) (.const (.int .i64 1))), s 4 (.mv (t 13))])))))) (.seq (.region false [s 22 (.mv (t 3)), s 2 (.mv (t 22))]) .ret))))
def toFactS.keep : List Nat := [0, 2, 3, 4]
def toFactS.res : List RRes := [.tmp 2]
theorem toFactS.of {mo : Bool} {args : List AV} {r : AV} {frs : Fr} (hn : Nat.ble args.length Try.f55.ntmps = true) (h : aCode (Kn mo Try.prog) toFactS.keep 0 toFactS.code (doneK toFactS.res r frs) ⟨argEnv 0 args, [], []⟩) : Abs.Ret mo Try.prog 55 args r frs :=
  Abs.Ret.of_ir Try.func55 rfl (by kernel_rfl) (Nat.le_of_ble_eq_true hn) (by kernel_rfl) (by kernel_rfl) h
abbrev toFactS.Ret (args : List AV) (r : AV) (frs : Fr) : Prop := Abs.Ret true Try.prog 55 args r frs
def toIntS.code : ACode := (.seq (.region false [s 2 (.mv (.const (.slice none 0 0)))]) (.seq (.region false [s 5 (.mv (t 0)), s 6 (.len false (t 5)), s 7 (.make 3 [(.int .i64 (.ofNat 0))] 1 8 (t 6)), s 3 (.mv (t 7))]) (.seq (.seq (.region false [s 4 (.mv (.const (.int .i64 0)))]) (.block 0 (.loop (.seq (.seq (.region false [s 8 (.mv (t 4)), s 9 (.mv (t 0)), s 10 (.len false (t 9)), s 11 (.bin .lss (t 8) (t 10))]) (.cond (t 11) .skip (.exit 0))) (.seq (.block 1 (.region false [s 14 (.mv (t 3)), s 15 (.mv (t 4)), s 16 (.mv (t 0)), s 17 (.mv (t 4)), s 18 (.iadr 1 (t 16) (t 17)), s 19 (.load false 1 (t 18)), s 20 (.iadr 1 (t 14) (t 15)), ⟨none, none, (.store 1 (t 20) (t 19))⟩])) (.region false [s 12 (.mv (t 4)), s 13 (.bin .add (t 12) (.const (.int .i64 1))), s 4 (.mv (t 13))])))))) (.seq (.region false [s 21 (.mv (t 3)), s 2 (.mv (t 21))]) .ret))))
def toIntS.keep : List Nat := [0, 2, 3, 4]
def toIntS.res : List RRes := [.tmp 2]
theorem toIntS.of {mo : Bool} {args : List AV} {r : AV} {frs : Fr} (hn : Nat.ble args.length Try.f52.ntmps = true) (h : aCode (Kn mo Try.prog) toIntS.keep 0 toIntS.code (doneK toIntS.res r frs) ⟨argEnv 0 args, [], []⟩) : Abs.Ret mo Try.prog 52 args r frs :=
  Abs.Ret.of_ir Try.func52 rfl (by kernel_rfl) (Nat.le_of_ble_eq_true hn) (by kernel_rfl) (by kernel_rfl) h
abbrev toIntS.Ret (args : List AV) (r : AV) (frs : Fr) : Prop := Abs.Ret true Try.prog 52 args r frs
def toNetwork.code : ACode := (.seq (.region false [s 1 (.box (t 0)), s 2 (.alloc [(.slice none 0 0), (.slice none 0 0), (.slice none 0 0), (.slice none 0 0), (.slice none 0 0), (.int .i64 (.ofNat 0))])]) (.seq (.region false [s 3 (.alloc [(.slice none 0 0), (.slice none 0 0), (.slice none 0 0), (.slice none 0 0), (.slice none 0 0), (.int .i64 (.ofNat 0))])]) (.seq (.region false [s 4 (.fadr 0 (t 1)), s 5 (.load false 1 (t 4)), s 6 (.call 51 [(t 5)]), s 7 (.fadr 0 (t 3)), ⟨none, none, (.store 1 (t 7) (t 6))⟩]) (.seq (.region false [s 8 (.fadr 1 (t 1)), s 9 (.load false 1 (t 8)), s 10 (.call 52 [(t 9)]), s 11 (.fadr 1 (t 3)), ⟨none, none, (.store 1 (t 11) (t 10))⟩]) (.seq (.region false [s 12 (.fadr 2 (t 1)), s 13 (.load false 1 (t 12)), s 14 (.call 53 [(t 13)]), s 15 (.fadr 2 (t 3)), ⟨none, none, (.store 1 (t 15) (t 14))⟩]) (.seq (.region false [s 16 (.fadr 3 (t 1)), s 17 (.load false 1 (t 16)), s 18 (.call 54 [(t 17)]), s 19 (.fadr 3 (t 3)), ⟨none, none, (.store 1 (t 19) (t 18))⟩]) (.seq (.region false [s 20 (.fadr 4 (t 1)), s 21 (.load false 1 (t 20)), s 22 (.call 55 [(t 21)]), s 23 (.fadr 4 (t 3)), ⟨none, none, (.store 1 (t 23) (t 22))⟩]) (.seq (.region false [s 24 (.fadr 5 (t 1)), s 25 (.load false 1 (t 24)), s 26 (.fadr 5 (t 3)), ⟨none, none, (.store 1 (t 26) (t 25))⟩]) (.seq (.region false [s 27 (.load true 6 (t 3)), ⟨none, none, (.store 6 (t 2) (t 27))⟩]) .ret)))))))))
def toNetwork.keep : List Nat := [0, 1, 2, 3]
def toNetwork.res : List RRes := [.cell 2 true 6]
theorem toNetwork.of {mo : Bool} {args : List AV} {r : AV} {frs : Fr} (hn : Nat.ble args.length Try.f16.ntmps = true) (h : aCode (Kn mo Try.prog) toNetwork.keep 0 toNetwork.code (doneK toNetwork.res r frs) ⟨argEnv 0 args, [], []⟩) : Abs.Ret mo Try.prog 16 args r frs :=
  Abs.Ret.of_ir Try.func16 rfl (by kernel_rfl) (Nat.le_of_ble_eq_true hn) (by kernel_rfl) (by kernel_rfl) h
abbrev toNetwork.Own (args : List AV) (x : Tr) : Prop := Abs.Own true Try.prog 16 args x
abbrev toNetwork.Ret (args : List AV) (r : AV) (frs : Fr) : Prop := Abs.Ret true Try.prog 16 args r frs
def toNode.code : ACode := (.seq (.region false [s 1 (.box (t 0)), s 2 (.alloc [(.int .i64 (.ofNat 0)), (.int .i64 (.ofNat 0)), (.string (.mk (.mk []))), (.slice none 0 0), (.string (.mk (.mk []))), (.string (.mk (.mk []))), (.int .i64 (.ofNat 0)), (.slice none 0 0)])]) (.seq (.region false [s 3 (.alloc [(.int .i64 (.ofNat 0)), (.int .i64 (.ofNat 0)), (.string (.mk (.mk []))), (.slice none 0 0), (.string (.mk (.mk []))), (.string (.mk (.mk []))), (.int .i64 (.ofNat 0)), (.slice none 0 0)])]) (.seq (.region false [s 4 (.fadr 0 (t 1)), s 5 (.load false 1 (t 4)), s 6 (.fadr 0 (t 3)), ⟨none, none, (.store 1 (t 6) (t 5))⟩]) (.seq (.region false [s 7 (.fadr 1 (t 1)), s 8 (.load true 5 (t 7)), s 9 (.call 132 [(t 8)]), s 10 (.fadr 1 (t 3)), ⟨none, none, (.store 5 (t 10) (t 9))⟩]) (.seq (.region false [s 11 (.fadr 6 (t 1)), s 12 (.load false 1 (t 11)), s 13 (.fadr 6 (t 3)), ⟨none, none, (.store 1 (t 13) (t 12))⟩]) (.seq (.region false [s 14 (.fadr 7 (t 1)), s 15 (.load false 1 (t 14)), s 16 (.call 133 [(t 15)]), s 17 (.fadr 7 (t 3)), ⟨none, none, (.store 1 (t 17) (t 16))⟩]) (.seq (.region false [s 18 (.load true 8 (t 3)), ⟨none, none, (.store 8 (t 2) (t 18))⟩]) .ret)))))))
def toNode.keep : List Nat := [0, 1, 2, 3]
def toNode.res : List RRes := [.cell 2 true 8]
theorem toNode.of {mo : Bool} {args : List AV} {r : AV} {frs : Fr} (hn : Nat.ble args.length Try.f96.ntmps = true) (h : aCode (Kn mo Try.prog) toNode.keep 0 toNode.code (doneK toNode.res r frs) ⟨argEnv 0 args, [], []⟩) : Abs.Ret mo Try.prog 96 args r frs :=
  Abs.Ret.of_ir Try.func96 rfl (by kernel_rfl) (Nat.le_of_ble_eq_true hn) (by kernel_rfl) (by kernel_rfl) h
abbrev toNode.Ret (args : List AV) (r : AV) (frs : Fr) : Prop := Abs.Ret true Try.prog 96 args r frs
def toNodeS.code : ACode := (.seq (.region false [s 2 (.mv (.const (.slice none 0 0)))]) (.seq (.region false [s 5 (.mv (t 0)), s 6 (.len false (t 5)), s 7 (.make 87 [(.int .i64 (.ofNat 0)), (.int .i64 (.ofNat 0)), (.string (.mk (.mk []))), (.slice none 0 0), (.string (.mk (.mk []))), (.string (.mk (.mk []))), (.int .i64 (.ofNat 0)), (.slice none 0 0)] 8 120 (t 6)), s 3 (.mv (t 7))]) (.seq (.seq (.region false [s 4 (.mv (.const (.int .i64 0)))]) (.block 0 (.loop (.seq (.seq (.region false [s 8 (.mv (t 4)), s 9 (.mv (t 0)), s 10 (.len false (t 9)), s 11 (.bin .lss (t 8) (t 10))]) (.cond (t 11) .skip (.exit 0))) (.seq (.block 1 (.region false [s 14 (.mv (t 3)), s 15 (.mv (t 4)), s 16 (.mv (t 0)), s 17 (.mv (t 4)), s 18 (.iadr 8 (t 16) (t 17)), s 19 (.load true 8 (t 18)), s 20 (.call 96 [(t 19)]), s 21 (.iadr 8 (t 14) (t 15)), ⟨none, none, (.store 8 (t 21) (t 20))⟩])) (.region false [s 12 (.mv (t 4)), s 13 (.bin .add (t 12) (.const (.int .i64 1))), s 4 (.mv (t 13))])))))) (.seq (.region false [s 22 (.mv (t 3)), s 2 (.mv (t 22))]) .ret))))
def toNodeS.keep : List Nat := [0, 2, 3, 4]
def toNodeS.res : List RRes := [.tmp 2]
theorem toNodeS.of {mo : Bool} {args : List AV} {r : AV} {frs : Fr} (hn : Nat.ble args.length Try.f54.ntmps = true) (h : aCode (Kn mo Try.prog) toNodeS.keep 0 toNodeS.code (doneK toNodeS.res r frs) ⟨argEnv 0 args, [], []⟩) : Abs.Ret mo Try.prog 54 args r frs :=
  Abs.Ret.of_ir Try.func54 rfl (by kernel_rfl) (Nat.le_of_ble_eq_true hn) (by kernel_rfl) (by kernel_rfl) h
abbrev toNodeS.Ret (args : List AV) (r : AV) (frs : Fr) : Prop := Abs.Ret true Try.prog 54 args r frs
def toPair.code : ACode := (.seq (.region false [s 1 (.box (t 0)), s 2 (.alloc [(.string (.mk (.mk []))), (.string (.mk (.mk [])))])]) (.seq (.region false [s 3 (.alloc [(.string (.mk (.mk []))), (.string (.mk (.mk [])))])]) (.seq (.region false [s 4 (.fadr 0 (t 1)), s 5 (.load false 1 (t 4)), s 6 (.fadr 0 (t 3)), ⟨none, none, (.store 1 (t 6) (t 5))⟩]) (.seq (.region false [s 7 (.fadr 1 (t 1)), s 8 (.load false 1 (t 7)), s 9 (.fadr 1 (t 3)), ⟨none, none, (.store 1 (t 9) (t 8))⟩]) (.seq (.region false [s 10 (.load true 2 (t 3)), ⟨none, none, (.store 2 (t 2) (t 10))⟩]) .ret)))))
def toPair.keep : List Nat := [0, 1, 2, 3]
def toPair.res : List RRes := [.cell 2 true 2]
theorem toPair.of {mo : Bool} {args : List AV} {r : AV} {frs : Fr} (hn : Nat.ble args.length Try.f34.ntmps = true) (h : aCode (Kn mo Try.prog) toPair.keep 0 toPair.code (doneK toPair.res r frs) ⟨argEnv 0 args, [], []⟩) : Abs.Ret mo Try.prog 34 args r frs :=
  Abs.Ret.of_ir Try.func34 rfl (by kernel_rfl) (Nat.le_of_ble_eq_true hn) (by kernel_rfl) (by kernel_rfl) h
abbrev toPair.Ret (args : List AV) (r : AV) (frs : Fr) : Prop := Abs.Ret true Try.prog 34 args r frs
def toPairS.code : ACode := (.seq (.region false [s 2 (.mv (.const (.slice none 0 0)))]) (.seq (.region false [s 5 (.mv (t 0)), s 6 (.len false (t 5)), s 7 (.make 65 [(.string (.mk (.mk []))), (.string (.mk (.mk [])))] 2 32 (t 6)), s 3 (.mv (t 7))]) (.seq (.seq (.region false [s 4 (.mv (.const (.int .i64 0)))]) (.block 0 (.loop (.seq (.seq (.region false [s 8 (.mv (t 4)), s 9 (.mv (t 0)), s 10 (.len false (t 9)), s 11 (.bin .lss (t 8) (t 10))]) (.cond (t 11) .skip (.exit 0))) (.seq (.block 1 (.region false [s 14 (.mv (t 3)), s 15 (.mv (t 4)), s 16 (.mv (t 0)), s 17 (.mv (t 4)), s 18 (.iadr 2 (t 16) (t 17)), s 19 (.load true 2 (t 18)), s 20 (.call 34 [(t 19)]), s 21 (.iadr 2 (t 14) (t 15)), ⟨none, none, (.store 2 (t 21) (t 20))⟩])) (.region false [s 12 (.mv (t 4)), s 13 (.bin .add (t 12) (.const (.int .i64 1))), s 4 (.mv (t 13))])))))) (.seq (.region false [s 22 (.mv (t 3)), s 2 (.mv (t 22))]) .ret))))
def toPairS.keep : List Nat := [0, 2, 3, 4]
def toPairS.res : List RRes := [.tmp 2]
theorem toPairS.of {mo : Bool} {args : List AV} {r : AV} {frs : Fr} (hn : Nat.ble args.length Try.f9.ntmps = true) (h : aCode (Kn mo Try.prog) toPairS.keep 0 toPairS.code (doneK toPairS.res r frs) ⟨argEnv 0 args, [], []⟩) : Abs.Ret mo Try.prog 9 args r frs :=
  Abs.Ret.of_ir Try.func9 rfl (by kernel_rfl) (Nat.le_of_ble_eq_true hn) (by kernel_rfl) (by kernel_rfl) h
abbrev toPairS.Ret (args : List AV) (r : AV) (frs : Fr) : Prop := Abs.Ret true Try.prog 9 args r frs
def toPattern.code : ACode := (.seq (.region false [s 1 (.box (t 0)), s 2 (.alloc [(.string (.mk (.mk []))), (.slice none 0 0)])]) (.seq (.region false [s 3 (.alloc [(.string (.mk (.mk []))), (.slice none 0 0)])]) (.seq (.region false [s 4 (.fadr 0 (t 1)), s 5 (.load false 1 (t 4)), s 6 (.fadr 0 (t 3)), ⟨none, none, (.store 1 (t 6) (t 5))⟩]) (.seq (.region false [s 7 (.fadr 1 (t 1)), s 8 (.load false 1 (t 7)), s 9 (.call 134 [(t 8)]), s 10 (.fadr 1 (t 3)), ⟨none, none, (.store 1 (t 10) (t 9))⟩]) (.seq (.region false [s 11 (.load true 2 (t 3)), ⟨none, none, (.store 2 (t 2) (t 11))⟩]) .ret)))))
def toPattern.keep : List Nat := [0, 1, 2, 3]
def toPattern.res : List RRes := [.cell 2 true 2]
theorem toPattern.of {mo : Bool} {args : List AV} {r : AV} {frs : Fr} (hn : Nat.ble args.length Try.f131.ntmps = true) (h : aCode (Kn mo Try.prog) toPattern.keep 0 toPattern.code (doneK toPattern.res r frs) ⟨argEnv 0 args, [], []⟩) : Abs.Ret mo Try.prog 131 args r frs :=
  Abs.Ret.of_ir Try.func131 rfl (by kernel_rfl) (Nat.le_of_ble_eq_true hn) (by kernel_rfl) (by kernel_rfl) h
abbrev toPattern.Ret (args : List AV) (r : AV) (frs : Fr) : Prop := Abs.Ret true Try.prog 131 args r frs
def toRule.code : ACode := (.seq (.region false [s 1 (.box (t 0)), s 2 (.alloc [(.string (.mk (.mk []))), (.int .i64 (.ofNat 0)), (.slice none 0 0), (.slice none 0 0)])]) (.seq (.region false [s 3 (.alloc [(.string (.mk (.mk []))), (.int .i64 (.ofNat 0)), (.slice none 0 0), (.slice none 0 0)])]) (.seq (.region false [s 4 (.fadr 0 (t 1)), s 5 (.load false 1 (t 4)), s 6 (.fadr 0 (t 3)), ⟨none, none, (.store 1 (t 6) (t 5))⟩]) (.seq (.region false [s 7 (.fadr 1 (t 1)), s 8 (.load false 1 (t 7)), s 9 (.fadr 1 (t 3)), ⟨none, none, (.store 1 (t 9) (t 8))⟩]) (.seq (.region false [s 10 (.fadr 2 (t 1)), s 11 (.load false 1 (t 10)), s 12 (.call 129 [(t 11)]), s 13 (.fadr 2 (t 3)), ⟨none, none, (.store 1 (t 13) (t 12))⟩]) (.seq (.region false [s 14 (.fadr 3 (t 1)), s 15 (.load false 1 (t 14)), s 16 (.call 130 [(t 15)]), s 17 (.fadr 3 (t 3)), ⟨none, none, (.store 1 (t 17) (t 16))⟩]) (.seq (.region false [s 18 (.load true 4 (t 3)), ⟨none, none, (.store 4 (t 2) (t 18))⟩]) .ret)))))))
def toRule.keep : List Nat := [0, 1, 2, 3]
def toRule.res : List RRes := [.cell 2 true 4]
theorem toRule.of {mo : Bool} {args : List AV} {r : AV} {frs : Fr} (hn : Nat.ble args.length Try.f94.ntmps = true) (h : aCode (Kn mo Try.prog) toRule.keep 0 toRule.code (doneK toRule.res r frs) ⟨argEnv 0 args, [], []⟩) : Abs.Ret mo Try.prog 94 args r frs :=
  Abs.Ret.of_ir Try.func94 rfl (by kernel_rfl) (Nat.le_of_ble_eq_true hn) (by kernel_rfl) (by kernel_rfl) h
abbrev toRule.Ret (args : List AV) (r : AV) (frs : Fr) : Prop := Abs.Ret true Try.prog 94 args r frs
def toRuleS.code : ACode := (.seq (.region false [s 2 (.mv (.const (.slice none 0 0)))]) (.seq (.region false [s 5 (.mv (t 0)), s 6 (.len false (t 5)), s 7 (.make 110 [(.string (.mk (.mk []))), (.int .i64 (.ofNat 0)), (.slice none 0 0), (.slice none 0 0)] 4 72 (t 6)), s 3 (.mv (t 7))]) (.seq (.seq (.region false [s 4 (.mv (.const (.int .i64 0)))]) (.block 0 (.loop (.seq (.seq (.region false [s 8 (.mv (t 4)), s 9 (.mv (t 0)), s 10 (.len false (t 9)), s 11 (.bin .lss (t 8) (t 10))]) (.cond (t 11) .skip (.exit 0))) (.seq (.block 1 (.region false [s 14 (.mv (t 3)), s 15 (.mv (t 4)), s 16 (.mv (t 0)), s 17 (.mv (t 4)), s 18 (.iadr 4 (t 16) (t 17)), s 19 (.load true 4 (t 18)), s 20 (.call 94 [(t 19)]), s 21 (.iadr 4 (t 14) (t 15)), ⟨none, none, (.store 4 (t 21) (t 20))⟩])) (.region false [s 12 (.mv (t 4)), s 13 (.bin .add (t 12) (.const (.int .i64 1))), s 4 (.mv (t 13))])))))) (.seq (.region false [s 22 (.mv (t 3)), s 2 (.mv (t 22))]) .ret))))
def toRuleS.keep : List Nat := [0, 2, 3, 4]
def toRuleS.res : List RRes := [.tmp 2]
theorem toRuleS.of {mo : Bool} {args : List AV} {r : AV} {frs : Fr} (hn : Nat.ble args.length Try.f51.ntmps = true) (h : aCode (Kn mo Try.prog) toRuleS.keep 0 toRuleS.code (doneK toRuleS.res r frs) ⟨argEnv 0 args, [], []⟩) : Abs.Ret mo Try.prog 51 args r frs :=
  Abs.Ret.of_ir Try.func51 rfl (by kernel_rfl) (Nat.le_of_ble_eq_true hn) (by kernel_rfl) (by kernel_rfl) h
abbrev toRuleS.Ret (args : List AV) (r : AV) (frs : Fr) : Prop := Abs.Ret true Try.prog 51 args r frs
def toStringS.code : ACode := (.seq (.region false [s 2 (.mv (.const (.slice none 0 0)))]) (.seq (.region false [s 5 (.mv (t 0)), s 6 (.len false (t 5)), s 7 (.make 9 [(.string (.mk (.mk [])))] 1 16 (t 6)), s 3 (.mv (t 7))]) (.seq (.seq (.region false [s 4 (.mv (.const (.int .i64 0)))]) (.block 0 (.loop (.seq (.seq (.region false [s 8 (.mv (t 4)), s 9 (.mv (t 0)), s 10 (.len false (t 9)), s 11 (.bin .lss (t 8) (t 10))]) (.cond (t 11) .skip (.exit 0))) (.seq (.block 1 (.region false [s 14 (.mv (t 3)), s 15 (.mv (t 4)), s 16 (.mv (t 0)), s 17 (.mv (t 4)), s 18 (.iadr 1 (t 16) (t 17)), s 19 (.load false 1 (t 18)), s 20 (.iadr 1 (t 14) (t 15)), ⟨none, none, (.store 1 (t 20) (t 19))⟩])) (.region false [s 12 (.mv (t 4)), s 13 (.bin .add (t 12) (.const (.int .i64 1))), s 4 (.mv (t 13))])))))) (.seq (.region false [s 21 (.mv (t 3)), s 2 (.mv (t 21))]) .ret))))
def toStringS.keep : List Nat := [0, 2, 3, 4]
def toStringS.res : List RRes := [.tmp 2]
theorem toStringS.of {mo : Bool} {args : List AV} {r : AV} {frs : Fr} (hn : Nat.ble args.length Try.f134.ntmps = true) (h : aCode (Kn mo Try.prog) toStringS.keep 0 toStringS.code (doneK toStringS.res r frs) ⟨argEnv 0 args, [], []⟩) : Abs.Ret mo Try.prog 134 args r frs :=
  Abs.Ret.of_ir Try.func134 rfl (by kernel_rfl) (Nat.le_of_ble_eq_true hn) (by kernel_rfl) (by kernel_rfl) h
abbrev toStringS.Ret (args : List AV) (r : AV) (frs : Fr) : Prop := Abs.Ret true Try.prog 134 args r frs
def toToken.code : ACode := (.seq (.region false [s 1 (.box (t 0)), s 2 (.alloc [(.slice none 0 0), (.slice none 0 0)])]) (.seq (.region false [s 3 (.alloc [(.slice none 0 0), (.slice none 0 0)])]) (.seq (.region false [s 4 (.fadr 0 (t 1)), s 5 (.load false 1 (t 4)), s 6 (.call 55 [(t 5)]), s 7 (.fadr 0 (t 3)), ⟨none, none, (.store 1 (t 7) (t 6))⟩]) (.seq (.region false [s 8 (.fadr 1 (t 1)), s 9 (.load false 1 (t 8)), s 10 (.call 9 [(t 9)]), s 11 (.fadr 1 (t 3)), ⟨none, none, (.store 1 (t 11) (t 10))⟩]) (.seq (.region false [s 12 (.load true 2 (t 3)), ⟨none, none, (.store 2 (t 2) (t 12))⟩]) .ret)))))
def toToken.keep : List Nat := [0, 1, 2, 3]
def toToken.res : List RRes := [.cell 2 true 2]
theorem toToken.of {mo : Bool} {args : List AV} {r : AV} {frs : Fr} (hn : Nat.ble args.length Try.f146.ntmps = true) (h : aCode (Kn mo Try.prog) toToken.keep 0 toToken.code (doneK toToken.res r frs) ⟨argEnv 0 args, [], []⟩) : Abs.Ret mo Try.prog 146 args r frs :=
  Abs.Ret.of_ir Try.func146 rfl (by kernel_rfl) (Nat.le_of_ble_eq_true hn) (by kernel_rfl) (by kernel_rfl) h
abbrev toToken.Ret (args : List AV) (r : AV) (frs : Fr) : Prop := Abs.Ret true Try.prog 146 args r frs
def toTokenS.code : ACode := (.seq (.region false [s 2 (.mv (.const (.slice none 0 0)))]) (.seq (.region false [s 5 (.mv (t 0)), s 6 (.len false (t 5)), s 7 (.make 154 [(.slice none 0 0), (.slice none 0 0)] 2 48 (t 6)), s 3 (.mv (t 7))]) (.seq (.seq (.region false [s 4 (.mv (.const (.int .i64 0)))]) (.block 0 (.loop (.seq (.seq (.region false [s 8 (.mv (t 4)), s 9 (.mv (t 0)), s 10 (.len false (t 9)), s 11 (.bin .lss (t 8) (t 10))]) (.cond (t 11) .skip (.exit 0))) (.seq (.block 1 (.region false [s 14 (.mv (t 3)), s 15 (.mv (t 4)), s 16 (.mv (t 0)), s 17 (.mv (t 4)), s 18 (.iadr 2 (t 16) (t 17)), s 19 (.load true 2 (t 18)), s 20 (.call 146 [(t 19)]), s 21 (.iadr 2 (t 14) (t 15)), ⟨none, none, (.store 2 (t 21) (t 20))⟩])) (.region false [s 12 (.mv (t 4)), s 13 (.bin .add (t 12) (.const (.int .i64 1))), s 4 (.mv (t 13))])))))) (.seq (.region false [s 22 (.mv (t 3)), s 2 (.mv (t 22))]) .ret))))
def toTokenS.keep : List Nat := [0, 2, 3, 4]
def toTokenS.res : List RRes := [.tmp 2]
theorem toTokenS.of {mo : Bool} {args : List AV} {r : AV} {frs : Fr} (hn : Nat.ble args.length Try.f133.ntmps = true) (h : aCode (Kn mo Try.prog) toTokenS.keep 0 toTokenS.code (doneK toTokenS.res r frs) ⟨argEnv 0 args, [], []⟩) : Abs.Ret mo Try.prog 133 args r frs :=
  Abs.Ret.of_ir Try.func133 rfl (by kernel_rfl) (Nat.le_of_ble_eq_true hn) (by kernel_rfl) (by kernel_rfl) h
abbrev toTokenS.Ret (args : List AV) (r : AV) (frs : Fr) : Prop := Abs.Ret true Try.prog 133 args r frs
end Go.Proofs.Ytfnejdkkhpjhmaa
namespace Go.Proofs.Ytfnejdkkhpjhmaa
open Abs
def part (z : List AV) (xs : List (List AV)) (i : Nat) : List AV := (xs.take i).flatten ++ (List.replicate (xs.length - i) z).flatten
theorem setAt_mid {α : Type} : ∀ (x a b c : List α), b.length = x.length → setAt (a ++ b ++ c) a.length x = a ++ x ++ c
  | [], a, b, c, h => by cases b with
    | nil => rfl
    | cons _ _ => simp at h
  | y :: x, a, b, c, h => by
    cases b with
    | nil => simp at h
    | cons b0 b =>
      have h1 : (a ++ b0 :: b ++ c).set a.length y = (a ++ [y]) ++ b ++ c := by simp
      have h2 : a.length + 1 = (a ++ [y]).length := by simp
      rw [setAt, h1, h2, setAt_mid x (a ++ [y]) b c (by simpa using h)]
      simp
theorem part_set {z : List AV} {xs : List (List AV)} {i sz : Nat} (hz : z.length = sz) (hx : ∀ x ∈ xs, x.length = sz) {x : List AV} (hi : xs[i]? = some x) : setAt (part z xs i) (i * sz) x = part z xs (i + 1) := by
  have hlt := getElem?_lt hi
  have h1 : (xs.take i).flatten.length = i * sz := by rw [length_flatten' sz _ (fun x h => hx x (List.mem_of_mem_take h)), List.length_take]; congr 1; omega
  obtain ⟨k, hk⟩ : ∃ k, xs.length - i = k + 1 := ⟨xs.length - i - 1, by omega⟩
  have hk2 : xs.length - (i + 1) = k := by omega
  have h2 : part z xs i = (xs.take i).flatten ++ z ++ (List.replicate k z).flatten := by
    rw [part, hk, List.replicate_succ, List.flatten_cons, List.append_assoc]
  have h3 : xs.take (i + 1) = xs.take i ++ [x] := by rw [List.take_add_one, hi]; rfl
  rw [h2, ← h1, setAt_mid _ _ _ _ (by rw [hz, hx x (List.mem_of_getElem? hi)]), part, hk2, h3]
  simp
theorem part_made {z : List Value} {xs : List (List AV)} {sz m : Nat} (hz : z.length = sz) (hp : 0 < sz) (hm : m = xs.length * sz) : madeK z m = part (z.map constAV) xs 0 := by
  subst hm
  have h1 : (List.replicate xs.length (z.map constAV)).flatten.length = xs.length * sz := by rw [length_flatten' sz]; · simp
                                                                                             · intro x hx; rw [List.eq_of_mem_replicate hx]; simp [hz]
  apply List.ext_getElem?
  intro i
  by_cases hi : i < xs.length * sz
  · have hq : i / sz < xs.length := (Nat.div_lt_iff_lt_mul hp).2 hi
    have hr : i % sz < sz := Nat.mod_lt _ hp
    have hf := flatten_get sz (List.replicate xs.length (z.map constAV)) (i / sz) (i % sz) (z.map constAV) (constAV (z.getD (i % sz) undef)) (fun x hx => by rw [List.eq_of_mem_replicate hx]; simp [hz]) (by simp [hq]) (by simp [hz, hr, List.getD])
    rw [show i / sz * sz + i % sz = i by rw [Nat.mul_comm]; exact Nat.div_add_mod _ _] at hf
    simp only [part, List.take_zero, List.flatten_nil, List.nil_append, Nat.sub_zero]
    rw [hf, madeK]
    simp [hi, hz]
  · rw [List.getElem?_eq_none (by simp [madeK]; omega)]
    simp only [part, List.take_zero, List.flatten_nil, List.nil_append, Nat.sub_zero]
    rw [List.getElem?_eq_none (by rw [h1]; omega)]
theorem part_all (z : List AV) (xs : List (List AV)) : part z xs xs.length = xs.flatten := by simp [part]
theorem part_len {z : List AV} {xs : List (List AV)} {i sz : Nat} (hz : z.length = sz) (hx : ∀ x ∈ xs, x.length = sz) (hi : i ≤ xs.length) : (part z xs i).length = xs.length * sz := by
  rw [part, List.length_append, length_flatten' sz _ (fun x h => hx x (List.mem_of_mem_take h)), length_flatten' sz _ (fun x h => by rw [List.eq_of_mem_replicate h]; exact hz), List.length_take, List.length_replicate, ← Nat.add_mul]
  congr 1; omega
theorem strs_get {l : List Str} {i : Nat} (hi : i < l.length) : (strs l)[i]? = some [.str (l.getD i [])] := by simp [strs_eq, List.getD, hi]
theorem toStringS.ret (l : List Str) (hl : l.length ≤ 1048576) : toStringS.Ret [.list none (strs l)] (.list (some 0) (strs l)) [(9, 1, l.length)] := by
  refine toStringS.of rfl ?_
  repeat' first
    | (conv => whnf
       first | refine Need.fin ?_)
  refine ALoop.mk Nat (fun i => ⟨[(0, .list none (strs l)), (3, .bsl 0 l.length), (4, .val (.int .i64 i))], [.cells (.row 9 1) (part [.str []] (strs l) i)], []⟩) (fun i => i ≤ l.length) (fun i => l.length - i) ⟨0, Nat.zero_le _, ?_⟩ (fun i hi => ?_)
  · repeat' first
      | exact trivial | refine Weak.mk ?_ ?_ ?_ ?_ (Or.inl (Nat.le_of_ble_eq_true rfl)) | refine And.intro ?_ ?_ | with_reducible rfl | exact Nat.le_of_ble_eq_true rfl | refine AV.int_congr ?_ | refine AV.list_congr ?_ | refine AV.bsl_congr ?_ ?_ | (apply rfl)
    · simp
    · simp only [List.nil_append, List.length_cons, List.length_nil, List.take_succ_cons, List.take_zero]
      rw [part_made (xs := strs l) (sz := 1) rfl (by decide) (by simp)]; rfl
  repeat' first
    | (conv => whnf
       first | refine Need.mk rfl ?_ | refine Need.fin ?_ | refine Need.mk ?_ ?_ | refine Ix.strsF rfl ?_ | refine Fork.dec (fun _ => ?_) (fun _ => ?_) | refine Round.mk ?_ | refine LitO.own rfl ?_)
  · rename_i h
    rw [length_strs] at h
    rw [part_len (sz := 1) rfl (strs_sz l) (by simp; exact hi), Int.toNat_natCast, length_strs]
    exact ⟨rfl, by omega⟩
  · rename_i h
    rw [length_strs] at h
    refine ⟨i + 1, by omega, ?_, by omega⟩
    repeat' first
      | exact trivial | refine Weak.mk ?_ ?_ ?_ ?_ (Or.inl (Nat.le_of_ble_eq_true rfl)) | refine And.intro ?_ ?_ | with_reducible rfl | exact Nat.le_of_ble_eq_true rfl | refine AV.int_congr ?_ | refine AV.list_congr ?_ | refine AV.bsl_congr ?_ ?_
    · rw [wrap64 (by omega) (by omega)]; rfl
    · simp only [Int.toNat_natCast]
      have := part_set (z := [.str []]) (sz := 1) rfl (strs_sz l) (strs_get (l := l) (i := i) (by omega))
      simp only [List.set_cons_zero, List.take_succ_cons, List.take_zero, List.length_cons, List.length_nil, this]
  · rename_i h
    rw [length_strs] at h
    conv => whnf
    have : i = l.length := by omega
    subst this
    refine FreezeD.flat (Freeze.mk (strs l) _ 9 1 rfl (by have := part_all [.str []] (strs l); rwa [length_strs] at this) (by simp) (strs_sz l) (fun c hc => ?_) ?_)
    · have e := part_all [.str []] (strs l)
      rw [length_strs] at e
      rw [e, List.mem_flatten] at hc
      obtain ⟨x, hx, hc⟩ := hc
      rw [strs_eq] at hx
      obtain ⟨s, _, rfl⟩ := List.mem_map.1 hx
      simp at hc; subst hc; rfl
    · exact Final.mk rfl rfl
theorem own_strs (fr : Fr) : ∀ l : List Str, OwnA fr (l.map sq).flatten (strs l).flatten []
  | [] => .nil
  | s :: l => .s s (own_strs fr l)
theorem eqStringS.ret (l m : List Str) (hl : l.length ≤ 1099511627776) : eqStringS.Ret [.list none (strs l), .list none (strs m)] (.val (.bool (decide (l = m)))) [] := by
  refine eqStringS.of rfl ?_
  repeat' first
    | (conv => whnf
       first | refine Need.mk rfl ?_ | refine Fork.bne (fun _ => ?_) (fun _ => ?_) | refine LitO.own rfl ?_ | refine FinVal.keep ?_ | refine Final.mk ?_ rfl)
    | refine AV.bool_congr ?_
  · rename_i h
    rw [length_strs, length_strs] at h
    have h3 : ¬ l = m := fun e => h (by rw [e])
    simp [h3]
  rename_i h
  rw [length_strs, length_strs] at h
  have h : l.length = m.length := by omega
  skip
  refine ALoop.mk Nat (fun i => ⟨[(0, .list none (strs l)), (1, .list none (strs m)), (5, .val (.int .i64 i))], [], []⟩) (fun i => i ≤ l.length ∧ l.take i = m.take i) (fun i => l.length - i) ⟨0, ⟨Nat.zero_le _, rfl⟩, ?_⟩ (fun i hi => ?_)
  · repeat' first
      | exact trivial | refine Weak.mk ?_ ?_ ?_ ?_ (Or.inl (Nat.le_of_ble_eq_true rfl)) | refine And.intro ?_ ?_ | with_reducible rfl | exact Nat.le_of_ble_eq_true rfl | refine AV.int_congr ?_ | refine AV.list_congr ?_ | (apply rfl)
  repeat' first
    | (conv => whnf
       first | refine Need.mk rfl ?_ | refine Ix.strsF rfl ?_ | refine Fork.dec (fun _ => ?_) (fun _ => ?_) | refine Fork.sne (fun _ => ?_) (fun _ => ?_) | refine Round.mk ?_ | refine LitO.own rfl ?_ | refine FinVal.keep ?_ | refine Final.mk ?_ rfl)
    | refine AV.bool_congr ?_
  · rename_i h1 h2
    have h3 : ¬ l = m := fun e => h2 (by rw [e])
    simp [h3]
  · rename_i h1 h2
    rw [length_strs] at h1
    refine ⟨i + 1, ⟨by omega, ?_⟩, ?_, by omega⟩
    · rw [take_succ' [] (by omega), take_succ' (l := m) [] (by omega), hi.2]
      rw [Int.toNat_natCast] at h2
      have h2' : l.getD i [] = m.getD i [] := h2
      rw [h2']
    · repeat' first
        | exact trivial | refine Weak.mk ?_ ?_ ?_ ?_ (Or.inl (Nat.le_of_ble_eq_true rfl)) | refine And.intro ?_ ?_ | with_reducible rfl | exact Nat.le_of_ble_eq_true rfl | refine AV.int_congr ?_ | refine AV.list_congr ?_ | (apply rfl)
      rw [wrap64 (by omega) (by omega)]; rfl
  · rename_i h1
    rw [length_strs] at h1
    have h2 := hi.2
    rw [List.take_of_length_le (by omega), List.take_of_length_le (by omega)] at h2
    simp [h2]
def szL : List Str → Nat
  | [] => 0
  | s :: l => s.length + szL l
def szT (l : List Str) : Nat := l.length + szL l
theorem szL_take_succ {l : List Str} {i : Nat} (hi : i < l.length) : szL (l.take (i + 1)) = szL (l.take i) + (l.getD i []).length := by
  induction l generalizing i with
  | nil => simp at hi
  | cons s l ih =>
    cases i with
    | zero => simp [szL]
    | succ i => simp only [List.take_succ_cons, szL, ih (show i < l.length by simpa using hi)]; simp [Nat.add_assoc]
theorem szL_le_take (l : List Str) (i : Nat) : szL (l.take i) ≤ szL l := by
  induction l generalizing i with
  | nil => simp [szL]
  | cons s l ih => cases i with
    | zero => simp [szL]
    | succ i => simp only [List.take_succ_cons, szL]; have := ih i; omega
/-- what is left of a, or -1 -/
def left (a : Int) (n : Nat) : Int := if a - n < 0 then -1 else a - n
theorem left_eq {a : Int} {n : Nat} {x : Int} (h : (x = -1 ∧ a < n) ∨ (x = a - n ∧ ¬ a < n)) : x = left a n := by unfold left; split <;> omega
theorem szStringS.ret (l : List Str) (a : Int) (h0 : 0 ≤ a) (ha : a ≤ 1048576) (hl : l.length ≤ 9223372036854775807) (hs : ∀ s ∈ l, s.length ≤ 9223372036854775807) :
    szStringS.Ret [.list none (strs l), .val (.int .i64 a)] (.val (.int .i64 (left a (szT l)))) [] := by
  refine szStringS.of rfl ?_
  have hw : IntKind.i64.wrap (a - ((strs l).length : Int)) = a - l.length := by rw [length_strs]; exact wrap64 (by omega) (by omega)
  repeat' first
    | (conv => whnf
       first | refine Need.mk rfl ?_ | refine Fork.dec (fun _ => ?_) (fun _ => ?_) | refine LitO.own rfl ?_ | refine FinVal.keep ?_ | refine Final.mk ?_ rfl)
    | refine AV.int_congr ?_
  · rename_i h
    rw [hw] at h
    rw [left, if_pos (by unfold szT; omega)]
  rename_i h
  rw [hw] at h
  skip
  refine ALoop.mk Nat (fun i => ⟨[(0, .list none (strs l)), (1, .val (.int .i64 (a - l.length - szL (l.take i)))), (5, .val (.int .i64 i))], [], []⟩) (fun i => i ≤ l.length ∧ (0 : Int) ≤ a - l.length - szL (l.take i)) (fun i => l.length - i) ⟨0, ⟨Nat.zero_le _, by simp [szL]; omega⟩, ?_⟩ (fun i hi => ?_)
  · repeat' first
      | exact trivial | refine Weak.mk ?_ ?_ ?_ ?_ (Or.inl (Nat.le_of_ble_eq_true rfl)) | refine And.intro ?_ ?_ | with_reducible rfl | exact Nat.le_of_ble_eq_true rfl | refine AV.int_congr ?_ | refine AV.list_congr ?_ | (apply rfl)
    rw [hw]; simp [szL]
  obtain ⟨hp1, hp2⟩ := hi
  have hg : ∀ i, (l.getD i []).length ≤ 9223372036854775807 := fun i => by
    rcases Nat.lt_or_ge i l.length with h | h
    · simp only [List.getD, List.getElem?_eq_getElem h, Option.getD_some]; exact hs _ (List.getElem_mem h)
    · simp [List.getD, List.getElem?_eq_none h]
  repeat' first
    | (conv => whnf
       first | refine Need.mk rfl ?_ | refine Ix.strsF rfl ?_ | refine Fork.dec (fun _ => ?_) (fun _ => ?_) | refine Round.mk ?_ | refine LitO.own rfl ?_ | refine FinVal.keep ?_ | refine Final.mk ?_ rfl)
    | refine AV.int_congr ?_
  · rename_i h1 h2
    rw [length_strs] at h1
    have h4 := hg i
    have h3 := szL_take_succ (l := l) (i := i) (by omega)
    have h5 := szL_le_take l (i + 1)
    change IntKind.i64.wrap (a - ↑l.length - ↑(szL (l.take i)) - ((l.getD i []).length : Int)) < 0 at h2
    rw [wrap64 (by omega) (by omega)] at h2
    rw [left, if_pos (by unfold szT; omega)]
  · rename_i h1 h2
    rw [length_strs] at h1
    have h4 := hg i
    have h3 := szL_take_succ (l := l) (i := i) (by omega)
    change ¬ IntKind.i64.wrap (a - ↑l.length - ↑(szL (l.take i)) - ((l.getD i []).length : Int)) < 0 at h2
    rw [wrap64 (by omega) (by omega)] at h2
    refine ⟨i + 1, ⟨by omega, by omega⟩, ?_, by omega⟩
    repeat' first
      | exact trivial | refine Weak.mk ?_ ?_ ?_ ?_ (Or.inl (Nat.le_of_ble_eq_true rfl)) | refine And.intro ?_ ?_ | with_reducible rfl | exact Nat.le_of_ble_eq_true rfl | refine AV.int_congr ?_ | refine AV.list_congr ?_ | (apply rfl)
    · change IntKind.i64.wrap (a - ↑l.length - ↑(szL (l.take i)) - ((l.getD i []).length : Int)) = _
      rw [wrap64 (by omega) (by omega)]; omega
    · rw [wrap64 (by omega) (by omega)]; rfl
  · rename_i h1
    rw [length_strs] at h1
    rw [List.take_of_length_le (by omega)] at hp2 ⊢
    rw [left, if_neg (by unfold szT; omega)]; unfold szT; omega
end Go.Proofs.Ytfnejdkkhpjhmaa
namespace Go.Proofs.Ytfnejdkkhpjhmaa
open Abs
def digs : Nat → Nat → Str → Str
  | 0, _, a => a
  | n + 1, k, a => if k = 0 then a else digs n (k / 10) (UInt8.ofNat (48 + k % 10) :: a)
theorem digs_fuel : ∀ (n m k : Nat) (a : Str), k ≤ n → k ≤ m → digs n k a = digs m k a
  | 0, 0, _, _, _, _ => rfl
  | 0, m + 1, k, a, h, _ => by have : k = 0 := by omega
                               subst this; rfl
  | n + 1, 0, k, a, _, h => by have : k = 0 := by omega
                               subst this; rfl
  | n + 1, m + 1, k, a, h, h' => by
    simp only [digs]
    split
    · rfl
    · exact digs_fuel n m _ _ (by omega) (by omega)
theorem digs_step {k : Nat} (a : Str) (h : 0 < k) : digs k k a = digs (k / 10) (k / 10) (UInt8.ofNat (48 + k % 10) :: a) := by
  obtain ⟨n, rfl⟩ : ∃ n, k = n + 1 := ⟨k - 1, by omega⟩
  rw [digs, if_neg (by omega)]
  exact digs_fuel _ _ _ _ (by omega) (by omega)
@[irreducible] def markF (k : Nat) : Str := if k = 0 then [109, 48] else 109 :: digs k k []
theorem markText.ret (k : Nat) (hk : k ≤ 1099511627775) : markText.Ret [.val (.int .i64 k)] (.str (markF k)) [] := by
  refine markText.ofS rfl rfl ?_
  repeat' first
    | (conv => whnf
       first | refine Need.mk rfl ?_ | refine Fork.dec (fun _ => ?_) (fun _ => ?_) | refine LitO.own rfl ?_ | refine Final.mk ?_ rfl)
    | refine AV.str_congr ?_
  · rename_i h
    have : k = 0 := by omega
    subst this; unfold markF; rfl
  rename_i h
  skip
  refine ALoop.mk (Nat × Str × Fr) (fun p => ⟨[(0, .val (.int .i64 p.1)), (3, .str p.2.1)], [], p.2.2⟩) (fun p => digs p.1 p.1 p.2.1 = digs k k [] ∧ p.2.1.length + p.1 ≤ k) (fun p => p.1) ⟨(k, [], []), ⟨rfl, by simp⟩, ?_⟩ (fun p hp => ?_)
  · repeat' first
      | exact trivial | refine Weak.mk ?_ ?_ ?_ ?_ (Or.inl (Nat.le_of_ble_eq_true rfl)) | refine And.intro ?_ ?_ | with_reducible rfl | exact Nat.le_of_ble_eq_true rfl | refine AV.int_congr ?_ | refine AV.str_congr ?_ | (apply rfl)
  obtain ⟨hp1, hp2⟩ := hp
  repeat' first
    | (conv => whnf
       first | refine Need.mk rfl ?_ | refine Need.fin ?_ | refine Need.mk ?_ ?_ | refine Fork.dec (fun _ => ?_) (fun _ => ?_) | refine LitO.own rfl ?_ | refine Final.mk ?_ rfl)
    | refine AV.str_congr ?_
  · refine ⟨[UInt8.ofNat (48 + p.1 % 10)], ?_, ?_⟩
    · rename_i h1
      have e1 : ((p.1 : Int).tmod 10) = ((p.1 % 10 : Nat) : Int) := (Int.ofNat_tmod p.1 10).symm
      have e2 : IntKind.i64.wrap (48 + (p.1 : Int).tmod 10) = ((48 + p.1 % 10 : Nat) : Int) := by rw [e1, wrap64 (by omega) (by omega)]; omega
      have e3 : IntKind.u8.wrap (((48 + p.1 % 10 : Nat)) : Int) = ((48 + p.1 % 10 : Nat) : Int) := by
        have := Go.IntWalk.u8_in ((48 + p.1 % 10 : Nat) : Int) ⟨by omega, by omega⟩
        exact this
      rw [e2, e3]
      simp [byteCell]
      omega
    repeat' first
      | (conv => whnf
         first | refine Need.mk rfl ?_ | refine Need.fin ?_ | refine Need.mk ?_ ?_ | refine Round.mk ?_ | refine LitO.own rfl ?_)
    · rename_i h1
      simp; omega
    · rename_i h1
      refine ⟨(p.1 / 10, UInt8.ofNat (48 + p.1 % 10) :: p.2.1, p.2.2 ++ [(5, 1, 1)]), ⟨by rw [← digs_step _ (by omega)]; exact hp1, by simp only [List.length_cons]; omega⟩, ?_, by show p.1 / 10 < p.1; omega⟩
      repeat' first
        | exact trivial | refine Weak.mk ?_ ?_ ?_ ?_ (Or.inl (Nat.le_of_ble_eq_true rfl)) | refine And.intro ?_ ?_ | exact Nat.le_of_ble_eq_true rfl | refine AV.int_congr ?_ | refine AV.str_congr ?_ | (apply rfl)
      have e4 : ((p.1 : Int).tdiv 10) = ((p.1 / 10 : Nat) : Int) := (Int.ofNat_tdiv p.1 10).symm
      rw [e4, wrap64 (by omega) (by omega)]
  · rename_i h1
    have : p.1 = 0 := by omega
    rw [this] at hp1
    show 1 + p.2.1.length ≤ 1099511627776
    omega
  · rename_i h1
    have : p.1 = 0 := by omega
    rw [this] at hp1
    have e : p.2.1 = digs k k [] := hp1
    unfold markF; rw [if_neg (by omega), ← e]; rfl
def markL (n k : Nat) : List Str := (List.range n).map fun i => markF (k + i)
@[simp] theorem length_markL (n k : Nat) : (markL n k).length = n := by simp [markL]
theorem markL_get {n k i : Nat} (hi : i < n) : (markL n k)[i]? = some (markF (k + i)) := by simp [markL, hi]
theorem gvLL_sq : ∀ (l : List Str) (n : Nat), gvLL (l.map sq) n = l.map AV.str
  | [], _ => rfl
  | s :: l, n => by simp [gvLL, sq, gvL, gv, gvLL_sq l]
theorem gbLL_sq : ∀ (l : List Str) (n : Nat), gbLL (l.map sq) n = []
  | [], _ => rfl
  | s :: l, n => by simp [gbLL, sq, gbL, gb, gbLL_sq l]
theorem nbLL_sq : ∀ (l : List Str), nbLL (l.map sq) = 0
  | [] => rfl
  | s :: l => by simp [nbLL, sq, nbL, nb, nbLL_sq l]
def strT (l : List Str) : Tr := .l 9 1 (l.map sq)
theorem gb_strT (l : List Str) (n : Nat) : gb (strT l) n = [.cells (.row 9 1) (l.map AV.str)] := by rw [strT, gb, gvLL_sq, gbLL_sq]
theorem gv_strT (l : List Str) (n : Nat) : gv (strT l) n = .bsl n l.length := by rw [strT, gv, List.length_map]
theorem nb_strT (l : List Str) : nb (strT l) = 1 := by rw [strT, nb, nbLL_sq]
theorem mix_set {l m : List Str} {i : Nat} {x : Str} (hi : i < l.length) (hl : m.length = l.length) (hx : m[i]? = some x) :
    ((m.take i ++ l.drop i).map AV.str).set i (.str x) = (m.take (i + 1) ++ l.drop (i + 1)).map AV.str := by
  have h1 : l.drop i = l[i] :: l.drop (i + 1) := List.drop_eq_getElem_cons hi
  have h2 : m.take (i + 1) = m.take i ++ [x] := by rw [List.take_add_one, hx]; rfl
  have h3 : (m.take i).length = i := by simp; omega
  rw [h1, h2, List.map_append, List.set_append_right _ _ (by rw [List.length_map, h3]; exact Nat.le_refl _), List.length_map, h3, Nat.sub_self, List.map_cons, List.set_cons_zero, List.map_append, List.map_append, List.append_assoc]
  rfl
theorem markStringS.turn (l : List Str) (k : Nat) (hk : k + l.length ≤ 1099511627775) : markStringS.Turn (gb (strT l) 0) [gv (strT l) 0, .val (.int .i64 k)] (.val (.int .i64 ((k + l.length : Nat)))) (gb (strT (markL l.length k)) 0) := by
  refine markStringS.ofT rfl rfl (by rw [length_gb, nb_strT, nb_strT]) ?_
  rw [gb_strT, gb_strT, gv_strT]
  skip
  refine ALoop.mk Nat (fun i => ⟨[(0, .bsl 0 l.length), (1, .val (.int .i64 (k + i : Nat))), (5, .val (.int .i64 i))], [.cells (.row 9 1) (((markL l.length k).take i ++ l.drop i).map AV.str)], []⟩) (fun i => i ≤ l.length) (fun i => l.length - i) ⟨0, Nat.zero_le _, ?_⟩ (fun i hi => ?_)
  · repeat' first
      | exact trivial | refine Weak.mk ?_ ?_ ?_ ?_ (Or.inl (Nat.le_of_ble_eq_true rfl)) | refine And.intro ?_ ?_ | with_reducible rfl | exact Nat.le_of_ble_eq_true rfl | refine AV.int_congr ?_ | refine AV.bsl_congr ?_ ?_ | (apply rfl)
  repeat' first
    | (conv => whnf
       first | refine Need.mk rfl ?_ | refine Need.fin ?_ | refine Need.mk ?_ ?_ | refine Fork.dec (fun _ => ?_) (fun _ => ?_) | refine Round.mk ?_ | refine LitO.own rfl ?_ | refine FinalT.mk ?_ ?_ | refine ACall.scalA _ _ (markText.ret _ ?_) rfl ?_)
    | refine AV.int_congr ?_
  · omega
  · rename_i h
    simp; omega
  · rename_i h
    refine ⟨i + 1, by omega, ?_, by omega⟩
    repeat' first
      | exact trivial | refine Weak.mk ?_ ?_ ?_ ?_ (Or.inl (Nat.le_of_ble_eq_true rfl)) | refine And.intro ?_ ?_ | with_reducible rfl | exact Nat.le_of_ble_eq_true rfl | refine AV.int_congr ?_ | refine AV.bsl_congr ?_ ?_
    · rw [wrap64 (by omega) (by omega)]; omega
    · rw [wrap64 (by omega) (by omega)]; rfl
    · have := mix_set (l := l) (m := markL l.length k) (i := i) (by omega) (by simp) (markL_get (by omega))
      simp only [Int.toNat_natCast, Nat.mul_one, setAt, List.set_cons_zero, List.take_succ_cons, List.take_zero, List.length_cons, List.length_nil, this]
  · rename_i h
    omega
  · rename_i h
    have : i = l.length := by omega
    subst this
    simp
    rw [List.take_of_length_le (by simp)]
@[irreducible] def heldL (l : List Str) (k : Nat) : Int := if l = markL l.length k then ((k + l.length : Nat) : Int) else -1
theorem heldStringS.ret (l : List Str) (k : Nat) (hk : k + l.length ≤ 1099511627775) : heldStringS.Ret [.list none (strs l), .val (.int .i64 k)] (.val (.int .i64 (heldL l k))) [] := by
  refine heldStringS.ofS rfl rfl ?_
  skip
  refine ALoop.mk Nat (fun i => ⟨[(0, .list none (strs l)), (1, .val (.int .i64 (k + i : Nat))), (5, .val (.int .i64 i))], [], []⟩) (fun i => i ≤ l.length ∧ l.take i = (markL l.length k).take i) (fun i => l.length - i) ⟨0, ⟨Nat.zero_le _, rfl⟩, ?_⟩ (fun i hi => ?_)
  · repeat' first
      | exact trivial | refine Weak.mk ?_ ?_ ?_ ?_ (Or.inl (Nat.le_of_ble_eq_true rfl)) | refine And.intro ?_ ?_ | with_reducible rfl | exact Nat.le_of_ble_eq_true rfl | refine AV.int_congr ?_ | refine AV.list_congr ?_ | (apply rfl)
  obtain ⟨hi, ht⟩ := hi
  repeat' first
    | (conv => whnf
       first | refine Need.mk rfl ?_ | refine Ix.strsF rfl ?_ | refine Fork.dec (fun _ => ?_) (fun _ => ?_) | refine Fork.sne (fun _ => ?_) (fun _ => ?_) | refine Round.mk ?_ | refine LitO.own rfl ?_ | refine FinVal.keep ?_ | refine Final.mk ?_ rfl | refine AQCall.mkA _ _ (fun hg => markText.ret _ ?_) rfl ?_)
    | refine AV.int_congr ?_
  · omega
  · rename_i h1 h2
    rw [length_strs] at h1
    have h3 : ¬ l = markL l.length k := fun e => h2 (by
      have := markL_get (n := l.length) (k := k) (i := i) (by omega)
      rw [← e] at this
      show l.getD (i : Int).toNat [] = _
      rw [Int.toNat_natCast, List.getD, this]; rfl)
    unfold heldL; rw [if_neg h3]
  · rename_i h1 h2
    rw [length_strs] at h1
    change l.getD (i : Int).toNat [] = markF (k + i) at h2
    rw [Int.toNat_natCast] at h2
    refine ⟨i + 1, ⟨by omega, ?_⟩, ?_, by omega⟩
    · rw [take_succ' [] (by omega), ht, h2, List.take_add_one, markL_get (by omega)]; rfl
    · repeat' first
        | exact trivial | refine Weak.mk ?_ ?_ ?_ ?_ (Or.inl (Nat.le_of_ble_eq_true rfl)) | refine And.intro ?_ ?_ | with_reducible rfl | exact Nat.le_of_ble_eq_true rfl | refine AV.int_congr ?_ | refine AV.list_congr ?_ | (apply rfl)
      · rw [wrap64 (by omega) (by omega)]; omega
      · rw [wrap64 (by omega) (by omega)]; rfl
  · rename_i h1
    rw [length_strs] at h1
    have e : l = markL l.length k := by
      have := ht
      rwa [List.take_of_length_le (by omega), List.take_of_length_le (by simp; omega)] at this
    have : i = l.length := by omega
    unfold heldL; rw [if_pos e, this]
end Go.Proofs.Ytfnejdkkhpjhmaa
namespace Go.Proofs.Ytfnejdkkhpjhmaa
open Abs
def tStrs : Ty (List Str) := Ty.plain 9 Ty.str (fun _ => rfl) (fun _ => rfl)
abbrev Fct := Str × List Str
def tFct : Ty Fct := Ty.pair Ty.str tStrs
abbrev facts (l : List Fct) : List (List AV) := rows tFct l
theorem szT_eq (l : List Str) : szT l = tStrs.size l := by
  show szT l = l.length + listSize Ty.str l
  unfold szT
  congr 1
  induction l with
  | nil => rfl
  | cons s l ih => simp only [szL, listSize, ih]; rfl
theorem Abs.ACall.mkStrs {C : Con} {lend : Bool} {f : Nat} {vs : List AV} {b : List ABox} {fr : Fr} {k : AV → List ABox → Fr → Prop} (ys : List AV) (l : List Str) (h : C.ret f ys (.list (some 0) (strs l)) [(9, 1, l.length)]) (hv : SeesL Sees0 vs ys)
    (hk : k (.list (some fr.length) (strs l)) b (fr ++ [(9, 1, l.length)])) : ACall C lend f vs b fr k :=
  ACall.mkV tStrs ys l (fun n => .list (some n) (strs l)) (fun _ => rfl) h hv hk
theorem Abs.ACall.mkFct {C : Con} {lend : Bool} {f : Nat} {vs : List AV} {b : List ABox} {fr : Fr} {k : AV → List ABox → Fr → Prop} (ys : List AV) (a : Fct) (h : C.ret f ys (.agg (tFct.tk a 0)) (tFct.fr a)) (hv : SeesL Sees0 vs ys)
    (hk : k (.agg (tFct.tk a fr.length)) b (fr ++ tFct.fr a)) : ACall C lend f vs b fr k := ACall.mkA tFct ys a h hv hk
theorem tFct_size (f : Fct) : tFct.size f = f.1.length + tStrs.size f.2 := rfl
theorem tStrs_size (l : List Str) : tStrs.size l = l.length + listSize Ty.str l := rfl
theorem toFact.ret (f : Fct) (h : tFct.size f ≤ 1048576) : toFact.Ret [.agg (oldL (tFct.q f))] (.agg (tFct.tk f 0)) (tFct.fr f) := by
  refine toFact.of rfl ?_
  rw [tFct_size, tStrs_size] at h
  repeat' first
    | (conv => whnf
       first | refine Need.mk ⟨rfl, Nat.le_of_ble_eq_true rfl⟩ ?_ | refine Need.mk (Nat.le_of_ble_eq_true rfl) ?_ | refine FinAgg.keep ?_ | refine Final.mk rfl rfl | refine ACall.mkStrs _ _ (toStringS.ret _ ?_) (by repeat' first | exact SeesL.nil | refine SeesL.cons ?_ ?_ | exact SeesB.of0 (Sees0.val _) | exact SeesB.of0 (Sees0.str _) | exact SeesB.of0 (Sees0.olds _ _) | exact SeesB.of0 (Sees0.old _) | exact SeesB.of0 (Sees0.oldagg _) | exact SeesB.of0 Sees0.nil | exact Sees0.val _ | exact Sees0.str _ | exact Sees0.olds _ _ | exact Sees0.old _ | exact Sees0.oldagg _ | exact Sees0.nil | exact SeesB.of0 (Sees0.any _) | assumption | exact sees_gv _ _ _ (by assumption) (by first | assumption | exact BoxIn.last _ _ | exact BoxIn.more (BoxIn.last _ _) _) | refine SeesB.agg ?_ | refine Sees0.agg ?_ | exact SeesB.of0 (Sees0.clo SeesL.nil SeesL.nil) | exact Sees0.clo SeesL.nil SeesL.nil | exact SeesB.of0 (Sees0.list rfl) | exact Sees0.list rfl) ?_)
  omega
theorem szFact.ret (f : Fct) (a : Int) (h0 : 0 ≤ a) (ha : a ≤ 1048576) (hb : tFct.bd f) :
    szFact.Ret [.agg (oldL (tFct.q f)), .val (.int .i64 a)] (.val (.int .i64 (left a (tFct.size f)))) [] := by
  refine szFact.of rfl ?_
  obtain ⟨h1, h2, hs⟩ := hb
  have h1 : f.1.length ≤ 9223372036854775807 := h1
  have hw : IntKind.i64.wrap (a - (f.1.length : Int)) = a - f.1.length := wrap64 (by omega) (by omega)
  have hz := tFct_size f
  have hz2 := szT_eq f.2
  repeat' first
    | (conv => whnf
       first | refine Need.mk rfl ?_ | refine Fork.dec (fun _ => ?_) (fun _ => ?_) | refine LitO.own rfl ?_ | refine FinVal.keep ?_ | refine Final.mk ?_ rfl | refine ACall.scalA _ _ (szStringS.ret _ _ ?_ ?_ ?_ ?_) rfl ?_)
    | refine AV.int_congr ?_
  all_goals rw [hw] at *
  all_goals first
    | assumption
    | omega
    | (unfold left at *; rw [hz, hz2] at *; split at * <;> (try split at *) <;> (try split) <;> omega)
end Go.Proofs.Ytfnejdkkhpjhmaa
namespace Go.Proofs.Ytfnejdkkhpjhmaa
open Abs
def tFcts : Ty (List Fct) := Ty.list 144 tFct
theorem tFcts_size (l : List Fct) : tFcts.size l = l.length + listSize tFct l := rfl
theorem facts_get {l : List Fct} {i : Nat} (hi : i < l.length) : l[i]? = some (l.getD i default) := by simp [List.getD, hi]
theorem tFcts_frs_succ {l : List Fct} {i : Nat} (hi : i < l.length) : frs tFct (l.take (i + 1)) = frs tFct (l.take i) ++ tFct.fr (l.getD i default) := by
  rw [take_succ' default hi, frs_append]; simp [frs]
theorem toFactS.ret (l : List Fct) (h : tFcts.size l ≤ 1048576) : toFactS.Ret [.list none (facts l)] (.list (some (0 + (frs tFct l).length)) (tks tFct l 0)) (tFcts.fr l) := by
  refine toFactS.of rfl ?_
  rw [tFcts_size] at h
  repeat' first
    | (conv => whnf
       first | refine Need.fin ?_)
  refine ALoop.mk Nat (fun i => ⟨[(0, .list none (facts l)), (3, .bsl 0 l.length), (4, .val (.int .i64 i))], [.cells (.row 144 2) (part [.str [], .val (.slice none 0 0)] (tks tFct l 0) i)], frs tFct (l.take i)⟩) (fun i => i ≤ l.length) (fun i => l.length - i) ⟨0, Nat.zero_le _, ?_⟩ (fun i hi => ?_)
  · repeat' first
      | exact trivial | refine Weak.mk ?_ ?_ ?_ ?_ (Or.inl (Nat.le_of_ble_eq_true rfl)) | refine And.intro ?_ ?_ | with_reducible rfl | exact Nat.le_of_ble_eq_true rfl | refine AV.int_congr ?_ | refine AV.list_congr ?_ | refine AV.bsl_congr ?_ ?_ | (apply rfl)
    · simp
    · simp only [List.nil_append, List.length_cons, List.length_nil, List.take_succ_cons, List.take_zero]
      rw [part_made (xs := tks tFct l 0) (sz := 2) rfl (by decide) (by simp [length_tks])]; rfl
  repeat' first
    | (conv => whnf
       first | refine Need.mk rfl ?_ | refine Need.mk (Nat.le_of_ble_eq_true rfl) ?_ | refine Need.fin ?_ | refine Need.mk ?_ ?_ | refine Ix.mapF (fun _ => rfl) ?_ | refine Fork.dec (fun _ => ?_) (fun _ => ?_) | refine Round.mk ?_ | refine LitO.own rfl ?_ | refine ACall.mkFct _ _ (toFact.ret _ ?_) (by repeat' first | exact SeesL.nil | refine SeesL.cons ?_ ?_ | exact SeesB.of0 (Sees0.val _) | exact SeesB.of0 (Sees0.str _) | exact SeesB.of0 (Sees0.olds _ _) | exact SeesB.of0 (Sees0.old _) | exact SeesB.of0 (Sees0.oldagg _) | exact SeesB.of0 Sees0.nil | exact Sees0.val _ | exact Sees0.str _ | exact Sees0.olds _ _ | exact Sees0.old _ | exact Sees0.oldagg _ | exact Sees0.nil | exact SeesB.of0 (Sees0.any _) | assumption | exact sees_gv _ _ _ (by assumption) (by first | assumption | exact BoxIn.last _ _ | exact BoxIn.more (BoxIn.last _ _) _) | refine SeesB.agg ?_ | refine Sees0.agg ?_ | exact SeesB.of0 (Sees0.clo SeesL.nil SeesL.nil) | exact Sees0.clo SeesL.nil SeesL.nil | exact SeesB.of0 (Sees0.list rfl) | exact Sees0.list rfl) ?_)
  · rename_i h1
    rw [length_rows] at h1
    have := listSize_mem tFct (List.mem_of_getElem? (facts_get (l := l) (i := i) (by omega)))
    rw [Int.toNat_natCast]; omega
  · rename_i h1
    rw [length_rows] at h1
    rw [part_len (sz := 2) rfl (tks_sz tFct l 0) (by rw [length_tks]; exact hi), Int.toNat_natCast, length_tks]
    exact ⟨rfl, by omega⟩
  · rename_i h1
    rw [length_rows] at h1
    refine ⟨i + 1, by omega, ?_, by omega⟩
    repeat' first
      | exact trivial | refine Weak.mk ?_ ?_ ?_ ?_ (Or.inl (Nat.le_of_ble_eq_true rfl)) | refine And.intro ?_ ?_ | with_reducible rfl | exact Nat.le_of_ble_eq_true rfl | refine AV.int_congr ?_ | refine AV.list_congr ?_ | refine AV.bsl_congr ?_ ?_
    · rw [wrap64 (by omega) (by omega)]; rfl
    · have := part_set (z := [.str [], .val (.slice none 0 0)]) (sz := 2) rfl (tks_sz tFct l 0) (tks_get tFct 0 (facts_get (l := l) (i := i) (by omega)))
      rw [Nat.zero_add] at this
      simp only [List.set_cons_zero, List.take_succ_cons, List.take_zero, List.length_cons, List.length_nil, Int.toNat_natCast, this]
    · rw [tFcts_frs_succ (by omega), Int.toNat_natCast]
  · rename_i h1
    rw [length_rows] at h1
    conv => whnf
    have : i = l.length := by omega
    subst this
    have hall := part_all [.str [], .val (.slice none 0 0)] (tks tFct l 0)
    rw [length_tks] at hall
    refine FreezeD.flat (Freeze.mk (tks tFct l 0) _ 144 2 rfl hall (length_tks _ _ _) (tks_sz tFct l 0) (fun c hc => ?_) ?_)
    · rw [hall] at hc; exact tks_nr tFct l 0 c hc
    · refine Final.mk ?_ ?_
      · rw [List.take_length, Nat.zero_add]
      · rw [List.take_length]; rfl
theorem szFactS.ret (l : List Fct) (a : Int) (h0 : 0 ≤ a) (ha : a ≤ 1048576) (hb : tFcts.bd l) :
    szFactS.Ret [.list none (facts l), .val (.int .i64 a)] (.val (.int .i64 (left a (tFcts.size l)))) [] := by
  refine szFactS.of rfl ?_
  obtain ⟨hl, hb⟩ := hb
  have hw : IntKind.i64.wrap (a - ((facts l).length : Int)) = a - l.length := by rw [length_rows]; exact wrap64 (by omega) (by omega)
  have hz := tFcts_size l
  repeat' first
    | (conv => whnf
       first | refine Need.mk rfl ?_ | refine Fork.dec (fun _ => ?_) (fun _ => ?_) | refine LitO.own rfl ?_ | refine FinVal.keep ?_ | refine Final.mk ?_ rfl)
    | refine AV.int_congr ?_
  · rename_i h
    rw [hw] at h
    rw [left, if_pos (by omega)]
  rename_i h
  rw [hw] at h
  skip
  refine ALoop.mk Nat (fun i => ⟨[(0, .list none (facts l)), (1, .val (.int .i64 (a - l.length - listSize tFct (l.take i)))), (5, .val (.int .i64 i))], [], []⟩) (fun i => i ≤ l.length ∧ (0 : Int) ≤ a - l.length - listSize tFct (l.take i)) (fun i => l.length - i) ⟨0, ⟨Nat.zero_le _, by simp [listSize]; omega⟩, ?_⟩ (fun i hi => ?_)
  · repeat' first
      | exact trivial | refine Weak.mk ?_ ?_ ?_ ?_ (Or.inl (Nat.le_of_ble_eq_true rfl)) | refine And.intro ?_ ?_ | with_reducible rfl | exact Nat.le_of_ble_eq_true rfl | refine AV.int_congr ?_ | refine AV.list_congr ?_ | (apply rfl)
    rw [hw]; simp [listSize]
  obtain ⟨hp1, hp2⟩ := hi
  have hle := listSize_take_le tFct l (i + 1)
  have hbi : i < l.length → tFct.bd (l.getD i default) := fun h => hb _ (List.mem_of_getElem? (facts_get h))
  have hsz : i < l.length → listSize tFct (l.take (i + 1)) = listSize tFct (l.take i) + tFct.size (l.getD i default) := fun h => listSize_take_succ tFct (facts_get h)
  repeat' first
    | (conv => whnf
       first | refine Need.mk rfl ?_ | refine Need.mk (Nat.le_of_ble_eq_true rfl) ?_ | refine Ix.mapF (fun _ => rfl) ?_ | refine Fork.dec (fun _ => ?_) (fun _ => ?_) | refine Round.mk ?_ | refine LitO.own rfl ?_ | refine FinVal.keep ?_ | refine Final.mk ?_ rfl | refine ACall.scalA _ _ (szFact.ret _ _ ?_ ?_ ?_) rfl ?_)
    | refine AV.int_congr ?_
  · exact hp2
  · omega
  · rename_i h1
    rw [length_rows] at h1
    rw [Int.toNat_natCast]; exact hbi (by omega)
  · rename_i h1 h2
    rw [length_rows] at h1
    rw [Int.toNat_natCast] at h2
    have := hsz (by omega)
    unfold left at h2 ⊢
    split at h2
    · rw [if_pos (by omega)]
    · omega
  · rename_i h1 h2
    rw [length_rows] at h1
    rw [Int.toNat_natCast] at h2
    have := hsz (by omega)
    have e : left (a - ↑l.length - ↑(listSize tFct (l.take i))) (tFct.size (l.getD i default)) = a - ↑l.length - ↑(listSize tFct (l.take (i + 1))) := by
      unfold left at h2 ⊢
      split at h2
      · omega
      · rw [if_neg ‹_›]; omega
    refine ⟨i + 1, ⟨by omega, ?_⟩, ?_, by omega⟩
    · rw [← e]; omega
    · repeat' first
        | exact trivial | refine Weak.mk ?_ ?_ ?_ ?_ (Or.inl (Nat.le_of_ble_eq_true rfl)) | refine And.intro ?_ ?_ | with_reducible rfl | exact Nat.le_of_ble_eq_true rfl | refine AV.int_congr ?_ | refine AV.list_congr ?_ | (apply rfl)
      · rw [Int.toNat_natCast]; exact e
      · rw [wrap64 (by omega) (by omega)]; rfl
  · rename_i h1
    rw [length_rows] at h1
    rw [List.take_of_length_le (by omega)] at hp2 ⊢
    rw [left, if_neg (by omega)]; omega
end Go.Proofs.Ytfnejdkkhpjhmaa
namespace Go.Proofs.Ytfnejdkkhpjhmaa
namespace Abs
mutual
/-- how many cells are marked: of a cell of an element, of its cells, of a slice's elements -/
def c1 : Tr → Nat
  | .v _ => 1
  | .s _ => 1
  | .l _ _ xs => cnLL xs
  | .a _ => 0
  | .p _ => 0
def cnC : List Tr → Nat
  | [] => 0
  | x :: xs => c1 x + cnC xs
def cnLL : List (List Tr) → Nat
  | [] => 0
  | x :: xs => cnC x + cnLL xs
end
mutual
/-- of a value: the cells in its slices -/
def cn : Tr → Nat
  | .l _ _ xs => cnLL xs
  | .a fs => cnA fs
  | .p fs => cnA fs
  | .v _ => 0
  | .s _ => 0
def cnA : List Tr → Nat
  | [] => 0
  | x :: xs => cn x + cnA xs
end
mutual
def m1 : Tr → Nat → Tr
  | .v _, k => .v (.int .i64 k)
  | .s _, k => .s (markF k)
  | .l t sz xs, k => .l t sz (mkLL xs k)
  | .a fs, _ => .a fs
  | .p fs, _ => .p fs
def mkC : List Tr → Nat → List Tr
  | [], _ => []
  | x :: xs, k => m1 x k :: mkC xs (k + c1 x)
def mkLL : List (List Tr) → Nat → List (List Tr)
  | [], _ => []
  | x :: xs, k => mkC x k :: mkLL xs (k + cnC x)
end
mutual
def mk : Tr → Nat → Tr
  | .l t sz xs, k => .l t sz (mkLL xs k)
  | .a fs, k => .a (mkA fs k)
  | .p fs, k => .p (mkA fs k)
  | .v x, _ => .v x
  | .s x, _ => .s x
def mkA : List Tr → Nat → List Tr
  | [], _ => []
  | x :: xs, k => mk x k :: mkA xs (k + cn x)
end
theorem cnC_append : ∀ xs ys, cnC (xs ++ ys) = cnC xs + cnC ys
  | [], ys => by simp [cnC]
  | x :: xs, ys => by rw [List.cons_append, cnC, cnC_append xs, cnC, Nat.add_assoc]
theorem cnLL_flatten : ∀ xs, cnLL xs = cnC xs.flatten
  | [] => rfl
  | x :: xs => by rw [cnLL, List.flatten_cons, cnC_append, cnLL_flatten xs]
theorem mkC_append : ∀ xs ys k, mkC (xs ++ ys) k = mkC xs k ++ mkC ys (k + cnC xs)
  | [], ys, k => by simp [mkC, cnC]
  | x :: xs, ys, k => by rw [List.cons_append, mkC, mkC_append xs, mkC, cnC, List.cons_append, Nat.add_assoc]
theorem mkLL_flatten : ∀ xs k, (mkLL xs k).flatten = mkC xs.flatten k
  | [], _ => rfl
  | x :: xs, k => by rw [mkLL, List.flatten_cons, List.flatten_cons, mkC_append, mkLL_flatten xs]
theorem length_mkC : ∀ xs k, (mkC xs k).length = xs.length
  | [], _ => rfl
  | x :: xs, k => by rw [mkC, List.length_cons, length_mkC xs, List.length_cons]
theorem length_mkLL : ∀ xs k, (mkLL xs k).length = xs.length
  | [], _ => rfl
  | x :: xs, k => by rw [mkLL, List.length_cons, length_mkLL xs, List.length_cons]
mutual
theorem nb_m1 : ∀ x k, nb (m1 x k) = nb x
  | .v _, _ => rfl
  | .s _, _ => rfl
  | .l t sz xs, k => by rw [m1, nb, nb, nbLL_mk xs]
  | .a _, _ => rfl
  | .p _, _ => rfl
theorem nbL_mkC : ∀ xs k, nbL (mkC xs k) = nbL xs
  | [], _ => rfl
  | x :: xs, k => by rw [mkC, nbL, nbL, nbL_mkC xs, nb_m1 x]
theorem nbLL_mk : ∀ xs k, nbLL (mkLL xs k) = nbLL xs
  | [], _ => rfl
  | x :: xs, k => by rw [mkLL, nbLL, nbLL, nbL_mkC x, nbLL_mk xs]
end
mutual
theorem nb_mk : ∀ x k, nb (mk x k) = nb x
  | .l t sz xs, k => by rw [mk, nb, nb, nbLL_mk xs]
  | .a fs, k => by rw [mk, nb, nb, nbL_mkA fs]
  | .p fs, k => by rw [mk, nb, nb, nbL_mkA fs]
  | .v _, _ => rfl
  | .s _, _ => rfl
theorem nbL_mkA : ∀ xs k, nbL (mkA xs k) = nbL xs
  | [], _ => rfl
  | x :: xs, k => by rw [mkA, nbL, nbL, nb_mk x, nbL_mkA xs]
end
mutual
theorem gv_mk : ∀ x k n, gv (mk x k) n = gv x n
  | .l t sz xs, k, n => by rw [mk, gv, gv, length_mkLL]
  | .a fs, k, n => by rw [mk, gv, gv, gvL_mkA fs]
  | .p fs, k, n => by rw [mk, gv, gv, gvL_mkA fs]
  | .v _, _, _ => rfl
  | .s _, _, _ => rfl
theorem gvL_mkA : ∀ xs k n, gvL (mkA xs k) n = gvL xs n
  | [], _, _ => rfl
  | x :: xs, k, n => by rw [mkA, gvL, gvL, gv_mk x, gvL_mkA xs, nb_mk]
end
theorem mkLL_all {sz : Nat} : ∀ (xs : List (List Tr)) (k : Nat), ((mkLL xs k).all fun e => e.length == sz) = xs.all fun e => e.length == sz
  | [], _ => rfl
  | x :: xs, k => by rw [mkLL, List.all_cons, List.all_cons, mkLL_all xs, length_mkC]
mutual
theorem okT_m1 : ∀ x k, okT (m1 x k) = okT x
  | .v _, _ => rfl
  | .s _, _ => rfl
  | .l t sz xs, k => by rw [m1, okT, okT, mkLL_all, okTLL_mk xs]
  | .a _, _ => rfl
  | .p _, _ => rfl
theorem okTL_mkC : ∀ xs k, okTL (mkC xs k) = okTL xs
  | [], _ => rfl
  | x :: xs, k => by rw [mkC, okTL, okTL, okTL_mkC xs, okT_m1 x]
theorem okTLL_mk : ∀ xs k, okTLL (mkLL xs k) = okTLL xs
  | [], _ => rfl
  | x :: xs, k => by rw [mkLL, okTLL, okTLL, okTL_mkC x, okTLL_mk xs]
end
mutual
theorem okT_mk : ∀ x k, okT (mk x k) = okT x
  | .l t sz xs, k => by rw [mk, okT, okT, mkLL_all, okTLL_mk xs]
  | .a fs, k => by rw [mk, okT, okT, okTL_mkA fs]
  | .p fs, k => by rw [mk, okT, okT, okTL_mkA fs]
  | .v _, _ => rfl
  | .s _, _ => rfl
theorem okTL_mkA : ∀ xs k, okTL (mkA xs k) = okTL xs
  | [], _ => rfl
  | x :: xs, k => by rw [mkA, okTL, okTL, okT_mk x, okTL_mkA xs]
end
def st (cs : List Tr) (k p : Nat) : List Tr := mkC (cs.take p) k ++ cs.drop p
theorem st_zero (cs : List Tr) (k : Nat) : st cs k 0 = cs := rfl
theorem st_all (cs : List Tr) (k : Nat) {p : Nat} (h : p = cs.length) : st cs k p = mkC cs k := by subst h; simp [st]
theorem length_st (cs : List Tr) (k p : Nat) : (st cs k p).length = cs.length := by simp [st, length_mkC]; omega
theorem st_at {cs : List Tr} {p : Nat} {x : Tr} (k : Nat) (h : cs[p]? = some x) : st cs k p = mkC (cs.take p) k ++ x :: cs.drop (p + 1) := by
  obtain ⟨hp, rfl⟩ := List.getElem?_eq_some_iff.1 h
  rw [st, List.drop_eq_getElem_cons hp]
theorem st_succ {cs : List Tr} {p : Nat} {x : Tr} (k : Nat) (h : cs[p]? = some x) : st cs k (p + 1) = mkC (cs.take p) k ++ m1 x (k + cnC (cs.take p)) :: cs.drop (p + 1) := by
  rw [st, List.take_add_one, h, mkC_append, List.append_assoc]; rfl
theorem cn_succ {cs : List Tr} {p : Nat} {x : Tr} (h : cs[p]? = some x) : cnC (cs.take (p + 1)) = cnC (cs.take p) + c1 x := by
  rw [List.take_add_one, h, cnC_append]; rfl
theorem cn_take_le (cs : List Tr) (p : Nat) : cnC (cs.take p) ≤ cnC cs := by
  have := cnC_append (cs.take p) (cs.drop p)
  rw [List.take_append_drop] at this; omega
theorem length_take_lt {cs : List Tr} {p : Nat} {x : Tr} (h : cs[p]? = some x) (k : Nat) : (mkC (cs.take p) k).length = p := by
  have := getElem?_lt h
  rw [length_mkC, List.length_take]; omega
/-- a number or a text is marked -/
theorem gvL_st {cs : List Tr} {p : Nat} {x : Tr} (k n : Nat) (h : cs[p]? = some x) :
    gvL (st cs k (p + 1)) n = (gvL (st cs k p) n).set p (gv (m1 x (k + cnC (cs.take p))) (n + nbL (cs.take p))) := by
  have hl : (gvL (mkC (cs.take p) k) n).length = p := by rw [length_gvL, length_take_lt h]
  rw [st_succ k h, st_at k h, gvL_append, gvL_append, List.set_append_right _ _ (by omega), hl, Nat.sub_self]
  rw [gvL, gvL, List.set_cons_zero, nb_m1, nbL_mkC]
theorem gbL_st {cs : List Tr} {p : Nat} {x : Tr} (k n : Nat) (h : cs[p]? = some x) (hx : nb x = 0) : gbL (st cs k (p + 1)) n = gbL (st cs k p) n := by
  have e1 : ∀ m, gb x m = [] := fun m => List.eq_nil_of_length_eq_zero (by rw [length_gb, hx])
  have e2 : ∀ m j, gb (m1 x j) m = [] := fun m j => List.eq_nil_of_length_eq_zero (by rw [length_gb, nb_m1, hx])
  rw [st_succ k h, st_at k h, gbL_append, gbL_append, gbL, gbL, e1, e2, nb_m1]
/-- a slice is marked -/
theorem gvL_stL {cs : List Tr} {p t sz : Nat} {ys : List (List Tr)} (k n : Nat) (h : cs[p]? = some (.l t sz ys)) : gvL (st cs k (p + 1)) n = gvL (st cs k p) n := by
  rw [st_succ k h, st_at k h, gvL_append, gvL_append, gvL, gvL, nb_m1, m1, gv, gv, length_mkLL]
theorem ld_st {cs : List Tr} {p : Nat} {x : Tr} (k n : Nat) (h : cs[p]? = some x) : (gvL (st cs k p) n).drop p = gv x (n + nbL (cs.take p)) :: gvL (cs.drop (p + 1)) (n + nbL (cs.take p) + nb x) := by
  have hl : (gvL (mkC (cs.take p) k) n).length = p := by rw [length_gvL, length_take_lt h]
  rw [st_at k h, gvL_append, List.drop_append_of_le_length (by omega), List.drop_of_length_le (by omega), List.nil_append, gvL, nbL_mkC]
theorem bx_st {cs : List Tr} {p t sz : Nat} {ys : List (List Tr)} (k : Nat) (h : cs[p]? = some (.l t sz ys)) (c : ABox) :
    c :: gbL (st cs k p) 1 = (c :: gbL (mkC (cs.take p) k) 1) ++ gb (.l t sz ys) (c :: gbL (mkC (cs.take p) k) 1).length ++ gbL (cs.drop (p + 1)) (1 + nbL (cs.take p) + nb (.l t sz ys)) := by
  rw [List.length_cons, length_gbL, nbL_mkC, st_at k h, gbL_append, gbL, nbL_mkC, Nat.add_comm (nbL _) 1]
  simp only [List.cons_append, List.append_assoc]
theorem bx_st' {cs : List Tr} {p t sz : Nat} {ys : List (List Tr)} (k : Nat) (h : cs[p]? = some (.l t sz ys)) (c : ABox) :
    (c :: gbL (mkC (cs.take p) k) 1) ++ gb (mk (.l t sz ys) (k + cnC (cs.take p))) (c :: gbL (mkC (cs.take p) k) 1).length ++ gbL (cs.drop (p + 1)) (1 + nbL (cs.take p) + nb (.l t sz ys)) = c :: gbL (st cs k (p + 1)) 1 := by
  rw [List.length_cons, length_gbL, nbL_mkC, st_succ k h, gbL_append, gbL, nbL_mkC, nb_m1, Nat.add_comm (nbL _) 1, m1, mk]
  simp only [List.cons_append, List.append_assoc]
theorem pre_st {cs : List Tr} {p : Nat} (k : Nat) (c : ABox) : (c :: gbL (mkC (cs.take p) k) 1).length = 1 + nbL (cs.take p) := by
  rw [List.length_cons, length_gbL, nbL_mkC, Nat.add_comm]
/-- the cells of element i -/
theorem cell_at {α : Type} [Inhabited α] (q : α → List Tr) (sz : Nat) (hq : ∀ a, (q a).length = sz) {l : List α} {i j : Nat} {x : Tr} (hi : i < l.length) (hx : (q (l.getD i default))[j]? = some x) : (l.map q).flatten[i * sz + j]? = some x := by
  refine flatten_get sz (l.map q) i j (q (l.getD i default)) x (fun e he => ?_) ?_ hx
  · obtain ⟨a, _, rfl⟩ := List.mem_map.1 he; exact hq a
  · simp [List.getD, hi]
theorem flat_len {α : Type} (q : α → List Tr) (sz : Nat) (hq : ∀ a, (q a).length = sz) (l : List α) : (l.map q).flatten.length = l.length * sz := by
  rw [length_flatten' sz _ (fun e he => by obtain ⟨a, _, rfl⟩ := List.mem_map.1 he; exact hq a), List.length_map]
theorem gb_l (t sz : Nat) (xs : List (List Tr)) (n : Nat) : gb (.l t sz xs) n = .cells (.row t sz) (gvL xs.flatten (n + 1)) :: gbL xs.flatten (n + 1) := by rw [gb, gvLL_flatten, gbLL_flatten]
theorem gb_mk_l (t sz : Nat) (xs : List (List Tr)) (k n : Nat) : gb (mk (.l t sz xs) k) n = .cells (.row t sz) (gvL (mkC xs.flatten k) (n + 1)) :: gbL (mkC xs.flatten k) (n + 1) := by rw [mk, gb_l, mkLL_flatten]
theorem cn_l (t sz : Nat) (xs : List (List Tr)) : cn (.l t sz xs) = cnC xs.flatten := by rw [cn, cnLL_flatten]
theorem gb_l0 (t sz : Nat) (xs : List (List Tr)) : gb (.l t sz xs) 0 = .cells (.row t sz) (gvL xs.flatten 1) :: gbL xs.flatten 1 := gb_l t sz xs 0
theorem gb_mk_l0 (t sz : Nat) (xs : List (List Tr)) (k : Nat) : gb (mk (.l t sz xs) k) 0 = .cells (.row t sz) (gvL (mkC xs.flatten k) 1) :: gbL (mkC xs.flatten k) 1 := gb_mk_l t sz xs k 0
theorem nbL_st (cs : List Tr) (k p : Nat) : nbL (st cs k p) = nbL cs := by
  rw [st, nbL_append, nbL_mkC, ← nbL_append, List.take_append_drop]
theorem weak_st {nb : Nat} {e e' : Env} {c c' : ABox} {L L' : List ABox} {f f' : Fr} (he : agrees e e') (hc : c = c') (hL : L = L') (hf : f = f') (hn : nb ≤ (c' :: L').length) : Weak nb ⟨e, c :: L, f⟩ ⟨e', c' :: L', f'⟩ := by
  subst hc; subst hL; subst hf
  exact ⟨he, List.take_length, rfl, hn, Or.inl (Nat.le_refl _)⟩
theorem ld_at {b : List ABox} {j off n : Nat} {rk : RK} {cs : List AV} {k : AV → Prop} (c : AV) (r : List AV) (h : b[j]? = some (.cells rk cs)) (hd : cs.drop off = c :: r) (hk : k c) :
    ptrCells b (.bptr j off) fun cs => takeAV false n cs k := by
  unfold ptrCells; simp only [h, hd]; exact hk
theorem ld_agg {b : List ABox} {j off n : Nat} {rk : RK} {cs : List AV} {k : AV → Prop} (h : b[j]? = some (.cells rk cs)) (hn : n ≤ (cs.drop off).length) (hk : k (.agg ((cs.drop off).take n))) :
    ptrCells b (.bptr j off) fun cs => takeAV true n cs k := by
  unfold ptrCells; simp only [h]; exact Need.mk hn hk
theorem take_all {α : Type} {n : Nat} {l : List α} (h : l.length ≤ n) : l.take n = l := List.take_of_length_le h
theorem takeAV_one {n : Nat} {cs : List AV} {k : AV → Prop} (c : AV) (r : List AV) (h : cs = c :: r) (hk : k c) : takeAV false n cs k := by subst h; exact hk
theorem cnA_append : ∀ xs ys, cnA (xs ++ ys) = cnA xs + cnA ys
  | [], ys => by simp [cnA]
  | x :: xs, ys => by rw [List.cons_append, cnA, cnA_append xs, cnA, Nat.add_assoc]
theorem mkA_append : ∀ xs ys k, mkA (xs ++ ys) k = mkA xs k ++ mkA ys (k + cnA xs)
  | [], ys, k => by simp [mkA, cnA]
  | x :: xs, ys, k => by rw [List.cons_append, mkA, mkA_append xs, mkA, cnA, List.cons_append, Nat.add_assoc]
def sa (cs : List Tr) (k p : Nat) : List Tr := mkA (cs.take p) k ++ cs.drop p
theorem sa_all (cs : List Tr) (k : Nat) {p : Nat} (h : p = cs.length) : sa cs k p = mkA cs k := by subst h; simp [sa]
theorem nbL_sa (cs : List Tr) (k p : Nat) : nbL (sa cs k p) = nbL cs := by
  rw [sa, nbL_append, nbL_mkA, ← nbL_append, List.take_append_drop]
theorem sa_at {cs : List Tr} {p : Nat} {x : Tr} (k : Nat) (h : cs[p]? = some x) : sa cs k p = mkA (cs.take p) k ++ x :: cs.drop (p + 1) := by
  obtain ⟨hp, rfl⟩ := List.getElem?_eq_some_iff.1 h
  rw [sa, List.drop_eq_getElem_cons hp]
theorem sa_succ {cs : List Tr} {p : Nat} {x : Tr} (k : Nat) (h : cs[p]? = some x) : sa cs k (p + 1) = mkA (cs.take p) k ++ mk x (k + cnA (cs.take p)) :: cs.drop (p + 1) := by
  rw [sa, List.take_add_one, h, mkA_append, List.append_assoc]; rfl
theorem cnA_succ {cs : List Tr} {p : Nat} {x : Tr} (h : cs[p]? = some x) : cnA (cs.take (p + 1)) = cnA (cs.take p) + cn x := by
  rw [List.take_add_one, h, cnA_append]; rfl
theorem cnA_take_le (cs : List Tr) (p : Nat) : cnA (cs.take p) ≤ cnA cs := by
  have := cnA_append (cs.take p) (cs.drop p)
  rw [List.take_append_drop] at this; omega
theorem bx_sa {cs : List Tr} {p : Nat} {x : Tr} (k : Nat) (h : cs[p]? = some x) : gbL (sa cs k p) 0 = gbL (mkA (cs.take p) k) 0 ++ (gb x (gbL (mkA (cs.take p) k) 0).length ++ gbL (cs.drop (p + 1)) (nbL (cs.take p) + nb x)) := by
  rw [sa_at k h, gbL_append, gbL, length_gbL, nbL_mkA, Nat.zero_add]
theorem bx_sa' {cs : List Tr} {p : Nat} {x : Tr} (k : Nat) (h : cs[p]? = some x) : gbL (sa cs k (p + 1)) 0 = gbL (mkA (cs.take p) k) 0 ++ (gb (mk x (k + cnA (cs.take p))) (gbL (mkA (cs.take p) k) 0).length ++ gbL (cs.drop (p + 1)) (nbL (cs.take p) + nb x)) := by
  rw [sa_succ k h, gbL_append, gbL, length_gbL, nbL_mkA, Nat.zero_add, nb_mk]
theorem Sees0.cut {xs : List AV} {ys : List Tr} (h : xs = oldL ys) : Sees0 (.agg xs) (.agg (oldL ys)) := by subst h; exact Sees0.oldagg ys
theorem cons_congr {α : Type} {a b : α} {l m : List α} (h : a = b) (h' : l = m) : a :: l = b :: m := by rw [h, h']
theorem tok_congr {a b : Nat} {l m : List (List AV)} (h : a = b) (h' : l = m) : AV.list (some a) l = AV.list (some b) m := by rw [h, h']
def unA : List Tr → List Tr
  | [] => []
  | .a fs :: r => fs ++ unA r
  | .v x :: r => .v x :: unA r
  | .s x :: r => .s x :: unA r
  | .l t sz xs :: r => .l t sz xs :: unA r
  | .p fs :: r => .p fs :: unA r
theorem gbL_unA : ∀ cs n, gbL (unA cs) n = gbL cs n
  | [], _ => rfl
  | .a fs :: r, n => by rw [unA, gbL_append, gbL_unA r, gbL, gb, nb]
  | .v x :: r, n => by rw [unA, gbL, gbL, gbL_unA r]
  | .s x :: r, n => by rw [unA, gbL, gbL, gbL_unA r]
  | .l t sz xs :: r, n => by rw [unA, gbL, gbL, gbL_unA r]
  | .p fs :: r, n => by rw [unA, gbL, gbL, gbL_unA r]
theorem cnA_unA : ∀ cs, cnA (unA cs) = cnA cs
  | [] => rfl
  | .a fs :: r => by rw [unA, cnA_append, cnA_unA r, cnA, cn]
  | .v x :: r => by rw [unA, cnA, cnA, cnA_unA r]
  | .s x :: r => by rw [unA, cnA, cnA, cnA_unA r]
  | .l t sz xs :: r => by rw [unA, cnA, cnA, cnA_unA r]
  | .p fs :: r => by rw [unA, cnA, cnA, cnA_unA r]
theorem mkA_unA : ∀ cs k, mkA (unA cs) k = unA (mkA cs k)
  | [], _ => rfl
  | .a fs :: r, k => by rw [unA, mkA_append, mkA_unA r, mkA, mk, unA, cn]
  | .v x :: r, k => by rw [unA, mkA, mkA, mkA_unA r, mk, unA]
  | .s x :: r, k => by rw [unA, mkA, mkA, mkA_unA r, mk, unA]
  | .l t sz xs :: r, k => by rw [unA, mkA, mkA, mkA_unA r, mk, unA]
  | .p fs :: r, k => by rw [unA, mkA, mkA, mkA_unA r, mk, unA]
/-- element i of marked ones -/
theorem mkLL_get : ∀ (xs : List (List Tr)) (k i : Nat) (x : List Tr), xs[i]? = some x → (mkLL xs k)[i]? = some (mkC x (k + cnLL (xs.take i)))
  | [], _, _, _, h => by simp at h
  | y :: xs, k, 0, x, h => by simp at h; subst h; simp [mkLL, cnLL]
  | y :: xs, k, i + 1, x, h => by
    have := mkLL_get xs (k + cnC y) i x (by simpa using h)
    rw [mkLL, List.getElem?_cons_succ, this, List.take_succ_cons, cnLL, Nat.add_assoc]
theorem cnLL_succ {xs : List (List Tr)} {i : Nat} {x : List Tr} (h : xs[i]? = some x) : cnLL (xs.take (i + 1)) = cnLL (xs.take i) + cnC x := by
  have aux : ∀ a b, cnLL (a ++ b) = cnLL a + cnLL b := fun a b => by rw [cnLL_flatten, cnLL_flatten, cnLL_flatten, List.flatten_append, cnC_append]
  rw [List.take_add_one, h, aux, Option.toList_some, cnLL, cnLL, Nat.add_zero]
theorem cnLL_take_le (xs : List (List Tr)) (i : Nat) : cnLL (xs.take i) ≤ cnLL xs := by
  have aux : ∀ a b, cnLL (a ++ b) = cnLL a + cnLL b := fun a b => by rw [cnLL_flatten, cnLL_flatten, cnLL_flatten, List.flatten_append, cnC_append]
  have := aux (xs.take i) (xs.drop i)
  rw [List.take_append_drop] at this; omega
def CnB {α : Type} (T : Ty α) (w : Nat) : Prop := ∀ a, cnC (T.q a) ≤ w * (1 + T.size a)
theorem CnB.str : CnB Ty.str 1 := fun a => by show 1 + 0 ≤ 1 * (1 + _); omega
theorem CnB.int : CnB Ty.int 1 := fun a => by show 1 + 0 ≤ 1 * (1 + _); omega
theorem CnB.bool : CnB Ty.bool 1 := fun a => by show 1 + 0 ≤ 1 * (1 + _); omega
theorem CnB.pair {α β : Type} {T : Ty α} {U : Ty β} {w v : Nat} (h : CnB T w) (g : CnB U v) : CnB (Ty.pair T U) (w + v) := fun a => by
  show cnC (T.q a.1 ++ U.q a.2) ≤ (w + v) * (1 + (T.size a.1 + U.size a.2))
  rw [cnC_append, Nat.add_mul]
  exact Nat.add_le_add (Nat.le_trans (h a.1) (Nat.mul_le_mul_left _ (by omega))) (Nat.le_trans (g a.2) (Nat.mul_le_mul_left _ (by omega)))
theorem CnB.rows {α : Type} {T : Ty α} {w : Nat} (h : CnB T w) : ∀ l : List α, cnLL (l.map T.q) ≤ w * (l.length + listSize T l)
  | [] => Nat.zero_le _
  | a :: l => by
    have h1 := h.rows l
    have h2 := h a
    rw [List.map_cons, cnLL, List.length_cons, listSize]
    refine Nat.le_trans (Nat.add_le_add h2 h1) ?_
    rw [← Nat.mul_add]
    exact Nat.mul_le_mul_left _ (by omega)
theorem CnB.cellsL {α : Type} {T : Ty α} {w : Nat} (h : CnB T w) (t sz : Nat) (l : List α) : cnC [.l t sz (l.map T.q)] ≤ w * (1 + (l.length + listSize T l)) := by
  show cnLL (l.map T.q) + 0 ≤ _
  exact Nat.le_trans (h.rows l) (Nat.mul_le_mul_left _ (by omega))
theorem CnB.list {α : Type} {T : Ty α} {w : Nat} (h : CnB T w) (t : Nat) : CnB (Ty.list t T) w := fun l => h.cellsL t T.sz l
theorem CnB.plain {α : Type} {T : Ty α} {w : Nat} (h : CnB T w) (t : Nat) (h1 h2) : CnB (Ty.plain t T h1 h2) w := fun l => h.cellsL t T.sz l
theorem CnB.l {α : Type} {T : Ty α} {w : Nat} (h : CnB T w) (t sz : Nat) (l : List α) : cn (.l t sz (l.map T.q)) ≤ w * (l.length + listSize T l) := h.rows l
/-- the elements of a slice without slices of their own -/
theorem rowsP_tks {α : Type} (T : Ty α) (h : ∀ a, T.fr a = []) (e : ∀ a, T.tk a 0 = oldL (T.q a)) : ∀ l : List α, tks T l 0 = rows T l
  | [] => rfl
  | a :: l => by
    rw [tks, h, e]
    show _ :: tks T l (0 + 0) = _
    rw [Nat.add_zero, rowsP_tks T h e l]; rfl
end Abs
end Go.Proofs.Ytfnejdkkhpjhmaa
namespace Go.Proofs.Ytfnejdkkhpjhmaa
open Abs
theorem Abs.ACall.mk_StringS {C : Con} {lend : Bool} {f : Nat} {vs : List AV} {b : List ABox} {fr : Fr} {k : AV → List ABox → Fr → Prop} (ys : List AV) (l : List Str) (h : C.ret f ys (.list (some 0) (strs l)) [(9, 1, l.length)]) (hv : SeesL Sees0 vs ys)
    (hk : k (.list (some fr.length) (strs l)) b (fr ++ [(9, 1, l.length)])) : ACall C lend f vs b fr k := ACall.mkStrs ys l h hv hk
theorem eqStringS.big (l m : List Str) (h : tStrs.size l ≤ 1099511627775) : eqStringS.Ret [.list none (strs l), .list none (strs m)] (.val (.bool (decide (l = m)))) [] := eqStringS.ret l m (by rw [tStrs_size] at h; omega)
theorem mkLL_sq : ∀ (l : List Str) (k : Nat), mkLL (l.map Ty.str.q) k = (markL l.length k).map sq
  | [], _ => rfl
  | s :: l, k => by
    have e : markL (l.length + 1) k = markF k :: markL l.length (k + 1) := by
      unfold markL
      rw [List.range_succ_eq_map, List.map_cons, List.map_map, Nat.add_zero]
      congr 1
      exact List.map_congr_left fun i _ => by show markF (k + (i + 1)) = markF (k + 1 + i); rw [Nat.add_assoc, Nat.add_comm 1 i]
    rw [List.map_cons, mkLL, List.length_cons, e, List.map_cons]
    exact congrArg _ (mkLL_sq l (k + 1))
theorem cnLL_sq : ∀ (l : List Str), cnLL (l.map Ty.str.q) = l.length
  | [] => rfl
  | s :: l => by rw [List.map_cons, cnLL, cnLL_sq l, List.length_cons]; show 1 + 0 + _ = _; omega
theorem markStringS.tn (l : List Str) (k : Nat) (_hs : tStrs.size l ≤ 1099511627775) (hk : k + cn (.l 9 1 (l.map Ty.str.q)) ≤ 1099511627775) :
    markStringS.Turn (gb (.l 9 1 (l.map Ty.str.q)) 0) [gv (.l 9 1 (l.map Ty.str.q)) 0, .val (.int .i64 k)] (.val (.int .i64 ((k + cn (.l 9 1 (l.map Ty.str.q)) : Nat)))) (gb (mk (.l 9 1 (l.map Ty.str.q)) k) 0) := by
  rw [mk, mkLL_sq]
  rw [cn, cnLL_sq] at hk ⊢
  exact markStringS.turn l k hk
theorem heldStringS.hd (l : List Str) (k : Nat) (_hs : tStrs.size l ≤ 1099511627775) (hk : k + cn (.l 9 1 (l.map Ty.str.q)) ≤ 1099511627775) :
    heldStringS.Ret [old (mk (.l 9 1 (l.map Ty.str.q)) k), .val (.int .i64 k)] (.val (.int .i64 ((k + cn (.l 9 1 (l.map Ty.str.q)) : Nat)))) [] := by
  rw [mk, mkLL_sq]
  rw [cn, cnLL_sq] at hk ⊢
  have h := heldStringS.ret (markL l.length k) k (by rw [length_markL]; exact hk)
  have e : heldL (markL l.length k) k = ((k + l.length : Nat) : Int) := by unfold heldL; rw [length_markL, if_pos rfl]
  rw [e] at h
  exact h
end Go.Proofs.Ytfnejdkkhpjhmaa
namespace Go.Proofs.Ytfnejdkkhpjhmaa
open Abs
abbrev VPattern := Str × List Str
instance : DecidableEq VPattern := instDecidableEqProd
def tPattern : Ty VPattern := Ty.pair Ty.str tStrs
theorem tPattern_size (a : VPattern) : tPattern.size a = a.1.length + tStrs.size a.2 := rfl
theorem tPattern_cn : CnB tPattern 2 := CnB.pair CnB.str (CnB.plain CnB.str _ _ _)
theorem Abs.ACall.mk_Pattern {C : Con} {lend : Bool} {f : Nat} {vs : List AV} {b : List ABox} {fr : Fr} {k : AV → List ABox → Fr → Prop} (ys : List AV) (a : VPattern) (h : C.ret f ys (.agg (tPattern.tk a 0)) (tPattern.fr a)) (hv : SeesL Sees0 vs ys)
    (hk : k (.agg (tPattern.tk a fr.length)) b (fr ++ tPattern.fr a)) : ACall C lend f vs b fr k := ACall.mkA tPattern ys a h hv hk
theorem toPattern.ret (a : VPattern) (h : tPattern.size a ≤ 1048576) : toPattern.Ret [.agg (oldL (tPattern.q a))] (.agg (tPattern.tk a 0)) (tPattern.fr a) := by
  refine toPattern.of rfl ?_
  rw [tPattern_size] at h
  have hf1 := tStrs_size a.2
  repeat' first
    | (conv => whnf
       first | refine Need.mk ⟨rfl, Nat.le_of_ble_eq_true rfl⟩ ?_ | refine Need.mk (Nat.le_of_ble_eq_true rfl) ?_ | refine FinAgg.keep ?_ | refine Final.mk rfl rfl | refine ACall.mk_StringS _ _ (toStringS.ret _ ?_) (by repeat' first | exact SeesL.nil | refine SeesL.cons ?_ ?_ | exact SeesB.of0 (Sees0.val _) | exact SeesB.of0 (Sees0.str _) | exact SeesB.of0 (Sees0.olds _ _) | exact SeesB.of0 (Sees0.old _) | exact SeesB.of0 (Sees0.oldagg _) | exact SeesB.of0 Sees0.nil | exact Sees0.val _ | exact Sees0.str _ | exact Sees0.olds _ _ | exact Sees0.old _ | exact Sees0.oldagg _ | exact Sees0.nil | exact SeesB.of0 (Sees0.any _) | assumption | exact sees_gv _ _ _ (by assumption) (by first | assumption | exact BoxIn.last _ _ | exact BoxIn.more (BoxIn.last _ _) _) | refine SeesB.agg ?_ | refine Sees0.agg ?_ | exact SeesB.of0 (Sees0.clo SeesL.nil SeesL.nil) | exact Sees0.clo SeesL.nil SeesL.nil | exact SeesB.of0 (Sees0.list rfl) | exact Sees0.list rfl) ?_)
  all_goals first
    | omega
    | (refine congrArg AV.agg ?_
       repeat' first
         | refine cons_congr ?_ ?_
         | refine tok_congr ?_ ?_
         | refine congrArg (tks _ _) ?_
         | rfl
       all_goals (simp [Ty.pair, Ty.str, Ty.int, Ty.bool, Nat.add_assoc, Ty.plain, tStrs]; done))
    | (simp [tPattern, Ty.pair, Ty.str, Ty.int, Ty.bool, List.append_assoc, Nat.add_assoc, Ty.plain, tStrs]; done)
theorem szPattern.ret (f : VPattern) (a : Int) (h0 : 0 ≤ a) (ha : a ≤ 1048576) (hb : tPattern.bd f) :
    szPattern.Ret [.agg (oldL (tPattern.q f)), .val (.int .i64 a)] (.val (.int .i64 (left a (tPattern.size f)))) [] := by
  refine szPattern.of rfl ?_
  have hz := tPattern_size f
  obtain ⟨hb0, hb1⟩ := hb
  have hb0 : f.1.length ≤ 9223372036854775807 := hb0
  obtain ⟨hbl1, hbe1⟩ := hb1
  have hy1 := szT_eq f.2
  by_cases c1 : a < (f.1.length : Int)
  · have e0 : IntKind.i64.wrap (a - (f.1.length : Int)) = a - (f.1.length : Int) := by rw [wrap64 (by omega) (by omega)]
    repeat' first
      | (conv => whnf
         first | refine Need.mk rfl ?_ | refine Fork.decYes (by omega) ?_ | refine LitO.own rfl ?_ | refine FinVal.keep ?_ | refine Final.mk ?_ rfl)
      | refine AV.int_congr ?_
    all_goals first
      | assumption
      | omega
      | exact left_eq (by omega)
  by_cases c2 : a < (f.1.length : Int) + (szT f.2 : Int)
  · have e0 : IntKind.i64.wrap (a - (f.1.length : Int)) = a - (f.1.length : Int) := by rw [wrap64 (by omega) (by omega)]
    have e1 : left (IntKind.i64.wrap (a - (f.1.length : Int))) (szT f.2) = -1 := by rw [e0, left, if_pos (by omega)]
    repeat' first
      | (conv => whnf
         first | refine Need.mk rfl ?_ | refine Fork.decYes (by omega) ?_ | refine Fork.decNo (by omega) ?_ | refine LitO.own rfl ?_ | refine FinVal.keep ?_ | refine Final.mk ?_ rfl | refine ACall.scalA _ _ (szStringS.ret _ _ ?_ ?_ ?_ ?_) rfl ?_)
      | refine AV.int_congr ?_
    all_goals first
      | assumption
      | omega
      | exact left_eq (by omega)
  have e0 : IntKind.i64.wrap (a - (f.1.length : Int)) = a - (f.1.length : Int) := by rw [wrap64 (by omega) (by omega)]
  have e1 : left (IntKind.i64.wrap (a - (f.1.length : Int))) (szT f.2) = a - (f.1.length : Int) - (szT f.2 : Int) := by rw [e0, left, if_neg (by omega)]
  repeat' first
    | (conv => whnf
       first | refine Need.mk rfl ?_ | refine Fork.decNo (by omega) ?_ | refine LitO.own rfl ?_ | refine FinVal.keep ?_ | refine Final.mk ?_ rfl | refine ACall.scalA _ _ (szStringS.ret _ _ ?_ ?_ ?_ ?_) rfl ?_)
    | refine AV.int_congr ?_
  all_goals first
    | assumption
    | omega
    | exact left_eq (by omega)
theorem eqPattern.big (f g : VPattern) (h : tPattern.size f ≤ 1099511627775) : eqPattern.Ret [.agg (oldL (tPattern.q f)), .agg (oldL (tPattern.q g))] (.val (.bool (decide (f = g)))) [] := by
  refine eqPattern.of rfl ?_
  have hz := tPattern_size f
  repeat' first
    | (conv => whnf
       first | refine Fork.sne (fun _ => ?_) (fun _ => ?_) | refine Fork.neg (fun _ => ?_) (fun _ => ?_) | refine FinVal.keep ?_ | refine Final.mk ?_ rfl | refine ACall.scalA _ _ (eqStringS.big _ _ ?_) rfl ?_)
    | refine AV.bool_congr ?_
  all_goals first
    | omega
    | (simp only [tStrs_size, tInts_size] at *; omega)
    | (obtain ⟨x0, x1⟩ := f; obtain ⟨y0, y1⟩ := g; simp_all)
end Go.Proofs.Ytfnejdkkhpjhmaa
namespace Go.Proofs.Ytfnejdkkhpjhmaa
open Abs
abbrev VCond := Int × VPattern × Str × Str
instance : DecidableEq VCond := instDecidableEqProd
def tCond : Ty VCond := Ty.pair Ty.int (Ty.pair tPattern (Ty.pair Ty.str Ty.str))
theorem tCond_size (a : VCond) : tCond.size a = 0 + (tPattern.size a.2.1 + (a.2.2.1.length + a.2.2.2.length)) := rfl
theorem tCond_cn : CnB tCond 5 := CnB.pair CnB.int (CnB.pair tPattern_cn (CnB.pair CnB.str CnB.str))
def tConds : Ty (List VCond) := Ty.list 83 tCond
theorem tConds_sz (l : List VCond) : tConds.size l = l.length + listSize tCond l := rfl
theorem tCond_get {l : List VCond} {i : Nat} (hi : i < l.length) : l[i]? = some (l.getD i default) := by simp [List.getD, hi]
theorem tCond_le {l : List VCond} {i : Nat} (hi : i < l.length) : tCond.size (l.getD i default) ≤ listSize tCond l := listSize_mem tCond (List.mem_of_getElem? (tCond_get hi))
theorem Abs.ACall.mk_Cond {C : Con} {lend : Bool} {f : Nat} {vs : List AV} {b : List ABox} {fr : Fr} {k : AV → List ABox → Fr → Prop} (ys : List AV) (a : VCond) (h : C.ret f ys (.agg (tCond.tk a 0)) (tCond.fr a)) (hv : SeesL Sees0 vs ys)
    (hk : k (.agg (tCond.tk a fr.length)) b (fr ++ tCond.fr a)) : ACall C lend f vs b fr k := ACall.mkA tCond ys a h hv hk
theorem Abs.ACall.mk_CondS {C : Con} {lend : Bool} {f : Nat} {vs : List AV} {b : List ABox} {fr : Fr} {k : AV → List ABox → Fr → Prop} (ys : List AV) (l : List VCond) (h : C.ret f ys (.list (some (0 + (frs tCond l).length)) (tks tCond l 0)) (tConds.fr l)) (hv : SeesL Sees0 vs ys)
    (hk : k (.list (some (fr.length + (frs tCond l).length)) (tks tCond l fr.length)) b (fr ++ tConds.fr l)) : ACall C lend f vs b fr k :=
  ACall.mkV tConds ys l (fun n => .list (some (n + (frs tCond l).length)) (tks tCond l n)) (fun _ => rfl) h hv hk
theorem toCond.ret (a : VCond) (h : tCond.size a ≤ 1048576) : toCond.Ret [.agg (oldL (tCond.q a))] (.agg (tCond.tk a 0)) (tCond.fr a) := by
  refine toCond.of rfl ?_
  rw [tCond_size] at h
  repeat' first
    | (conv => whnf
       first | refine Need.mk ⟨rfl, Nat.le_of_ble_eq_true rfl⟩ ?_ | refine Need.mk (Nat.le_of_ble_eq_true rfl) ?_ | refine FinAgg.keep ?_ | refine Final.mk rfl rfl | refine ACall.mk_Pattern _ _ (toPattern.ret _ ?_) (by repeat' first | exact SeesL.nil | refine SeesL.cons ?_ ?_ | exact SeesB.of0 (Sees0.val _) | exact SeesB.of0 (Sees0.str _) | exact SeesB.of0 (Sees0.olds _ _) | exact SeesB.of0 (Sees0.old _) | exact SeesB.of0 (Sees0.oldagg _) | exact SeesB.of0 Sees0.nil | exact Sees0.val _ | exact Sees0.str _ | exact Sees0.olds _ _ | exact Sees0.old _ | exact Sees0.oldagg _ | exact Sees0.nil | exact SeesB.of0 (Sees0.any _) | assumption | exact sees_gv _ _ _ (by assumption) (by first | assumption | exact BoxIn.last _ _ | exact BoxIn.more (BoxIn.last _ _) _) | refine SeesB.agg ?_ | refine Sees0.agg ?_ | exact SeesB.of0 (Sees0.clo SeesL.nil SeesL.nil) | exact Sees0.clo SeesL.nil SeesL.nil | exact SeesB.of0 (Sees0.list rfl) | exact Sees0.list rfl) ?_)
  all_goals first
    | omega
    | (refine congrArg AV.agg ?_
       repeat' first
         | refine cons_congr ?_ ?_
         | refine tok_congr ?_ ?_
         | refine congrArg (tks _ _) ?_
         | rfl
       all_goals (simp [Ty.pair, Ty.str, Ty.int, Ty.bool, Nat.add_assoc]; done))
    | (simp [tCond, Ty.pair, Ty.str, Ty.int, Ty.bool, List.append_assoc, Nat.add_assoc]; done)
theorem szCond.ret (f : VCond) (a : Int) (h0 : 0 ≤ a) (ha : a ≤ 1048576) (hb : tCond.bd f) :
    szCond.Ret [.agg (oldL (tCond.q f)), .val (.int .i64 a)] (.val (.int .i64 (left a (tCond.size f)))) [] := by
  refine szCond.of rfl ?_
  have hz := tCond_size f
  obtain ⟨hb0, hb1, hb2, hb3⟩ := hb
  have hb2 : f.2.2.1.length ≤ 9223372036854775807 := hb2
  have hb3 : f.2.2.2.length ≤ 9223372036854775807 := hb3
  by_cases c1 : a < (tPattern.size f.2.1 : Int)
  · have e0 : left a (tPattern.size f.2.1) = -1 := by rw [left, if_pos (by omega)]
    repeat' first
      | (conv => whnf
         first | refine Need.mk rfl ?_ | refine Need.mk (Nat.le_of_ble_eq_true rfl) ?_ | refine Fork.decYes (by omega) ?_ | refine LitO.own rfl ?_ | refine FinVal.keep ?_ | refine Final.mk ?_ rfl | refine ACall.scalA _ _ (szPattern.ret _ _ ?_ ?_ ?_) rfl ?_)
      | refine AV.int_congr ?_
    all_goals first
      | assumption
      | omega
      | exact left_eq (by omega)
  by_cases c2 : a < (tPattern.size f.2.1 : Int) + (f.2.2.1.length : Int)
  · have e0 : left a (tPattern.size f.2.1) = a - (tPattern.size f.2.1 : Int) := by rw [left, if_neg (by omega)]
    have e1 : IntKind.i64.wrap (left a (tPattern.size f.2.1) - (f.2.2.1.length : Int)) = a - (tPattern.size f.2.1 : Int) - (f.2.2.1.length : Int) := by rw [e0, wrap64 (by omega) (by omega)]
    repeat' first
      | (conv => whnf
         first | refine Need.mk rfl ?_ | refine Need.mk (Nat.le_of_ble_eq_true rfl) ?_ | refine Fork.decYes (by omega) ?_ | refine Fork.decNo (by omega) ?_ | refine LitO.own rfl ?_ | refine FinVal.keep ?_ | refine Final.mk ?_ rfl | refine ACall.scalA _ _ (szPattern.ret _ _ ?_ ?_ ?_) rfl ?_)
      | refine AV.int_congr ?_
    all_goals first
      | assumption
      | omega
      | exact left_eq (by omega)
  by_cases c3 : a < (tPattern.size f.2.1 : Int) + (f.2.2.1.length : Int) + (f.2.2.2.length : Int)
  · have e0 : left a (tPattern.size f.2.1) = a - (tPattern.size f.2.1 : Int) := by rw [left, if_neg (by omega)]
    have e1 : IntKind.i64.wrap (left a (tPattern.size f.2.1) - (f.2.2.1.length : Int)) = a - (tPattern.size f.2.1 : Int) - (f.2.2.1.length : Int) := by rw [e0, wrap64 (by omega) (by omega)]
    have e2 : IntKind.i64.wrap (IntKind.i64.wrap (left a (tPattern.size f.2.1) - (f.2.2.1.length : Int)) - (f.2.2.2.length : Int)) = a - (tPattern.size f.2.1 : Int) - (f.2.2.1.length : Int) - (f.2.2.2.length : Int) := by rw [e1, wrap64 (by omega) (by omega)]
    repeat' first
      | (conv => whnf
         first | refine Need.mk rfl ?_ | refine Need.mk (Nat.le_of_ble_eq_true rfl) ?_ | refine Fork.decYes (by omega) ?_ | refine Fork.decNo (by omega) ?_ | refine LitO.own rfl ?_ | refine FinVal.keep ?_ | refine Final.mk ?_ rfl | refine ACall.scalA _ _ (szPattern.ret _ _ ?_ ?_ ?_) rfl ?_)
      | refine AV.int_congr ?_
    all_goals first
      | assumption
      | omega
      | exact left_eq (by omega)
  have e0 : left a (tPattern.size f.2.1) = a - (tPattern.size f.2.1 : Int) := by rw [left, if_neg (by omega)]
  have e1 : IntKind.i64.wrap (left a (tPattern.size f.2.1) - (f.2.2.1.length : Int)) = a - (tPattern.size f.2.1 : Int) - (f.2.2.1.length : Int) := by rw [e0, wrap64 (by omega) (by omega)]
  have e2 : IntKind.i64.wrap (IntKind.i64.wrap (left a (tPattern.size f.2.1) - (f.2.2.1.length : Int)) - (f.2.2.2.length : Int)) = a - (tPattern.size f.2.1 : Int) - (f.2.2.1.length : Int) - (f.2.2.2.length : Int) := by rw [e1, wrap64 (by omega) (by omega)]
  repeat' first
    | (conv => whnf
       first | refine Need.mk rfl ?_ | refine Need.mk (Nat.le_of_ble_eq_true rfl) ?_ | refine Fork.decNo (by omega) ?_ | refine LitO.own rfl ?_ | refine FinVal.keep ?_ | refine Final.mk ?_ rfl | refine ACall.scalA _ _ (szPattern.ret _ _ ?_ ?_ ?_) rfl ?_)
    | refine AV.int_congr ?_
  all_goals first
    | assumption
    | omega
    | exact left_eq (by omega)
theorem eqCond.big (f g : VCond) (h : tCond.size f ≤ 1099511627775) : eqCond.Ret [.agg (oldL (tCond.q f)), .agg (oldL (tCond.q g))] (.val (.bool (decide (f = g)))) [] := by
  refine eqCond.of rfl ?_
  have hz := tCond_size f
  repeat' first
    | (conv => whnf
       first | refine Need.mk rfl ?_ | refine Need.mk (Nat.le_of_ble_eq_true rfl) ?_ | refine Fork.bne (fun _ => ?_) (fun _ => ?_) | refine Fork.sne (fun _ => ?_) (fun _ => ?_) | refine Fork.neg (fun _ => ?_) (fun _ => ?_) | refine LitO.own rfl ?_ | refine FinVal.keep ?_ | refine Final.mk ?_ rfl | refine ACall.scalA _ _ (eqPattern.big _ _ ?_) rfl ?_)
    | refine AV.bool_congr ?_
  all_goals first
    | omega
    | (simp only [tStrs_size, tInts_size] at *; omega)
    | (obtain ⟨x0, ⟨x10, x11⟩, x2, x3⟩ := f; obtain ⟨y0, ⟨y10, y11⟩, y2, y3⟩ := g; simp_all)
theorem toCondS.ret (l : List VCond) (h : tConds.size l ≤ 1048576) : toCondS.Ret [.list none (rows tCond l)] (.list (some (0 + (frs tCond l).length)) (tks tCond l 0)) (tConds.fr l) := by
  refine toCondS.of rfl ?_
  rw [tConds_sz] at h
  repeat' first
    | (conv => whnf
       first | refine Need.fin ?_)
  refine ALoop.mk Nat (fun i => ⟨[(0, .list none (rows tCond l)), (3, .bsl 0 l.length), (4, .val (.int .i64 i))], [.cells (.row 83 5) (part [.val (.int .i64 0), .str [], .val (.slice none 0 0), .str [], .str []] (tks tCond l 0) i)], frs tCond (l.take i)⟩) (fun i => i ≤ l.length) (fun i => l.length - i) ⟨0, Nat.zero_le _, ?_⟩ (fun i hi => ?_)
  · repeat' first
      | exact trivial | refine Weak.mk ?_ ?_ ?_ ?_ (Or.inl (Nat.le_of_ble_eq_true rfl)) | refine And.intro ?_ ?_ | with_reducible rfl | exact Nat.le_of_ble_eq_true rfl | refine AV.int_congr ?_ | refine AV.list_congr ?_ | refine AV.bsl_congr ?_ ?_ | (apply rfl)
    · simp
    · simp only [List.nil_append, List.length_cons, List.length_nil, List.take_succ_cons, List.take_zero]
      rw [part_made (xs := tks tCond l 0) (sz := 5) rfl (by decide) (by simp [length_tks])]; rfl
  repeat' first
    | (conv => whnf
       first | refine Need.mk rfl ?_ | refine Need.mk (Nat.le_of_ble_eq_true rfl) ?_ | refine Need.fin ?_ | refine Need.mk ?_ ?_ | refine Ix.mapF (fun _ => rfl) ?_ | refine Fork.dec (fun _ => ?_) (fun _ => ?_) | refine Round.mk ?_ | refine LitO.own rfl ?_ | refine ACall.mk_Cond _ _ (toCond.ret _ ?_) (by repeat' first | exact SeesL.nil | refine SeesL.cons ?_ ?_ | exact SeesB.of0 (Sees0.val _) | exact SeesB.of0 (Sees0.str _) | exact SeesB.of0 (Sees0.olds _ _) | exact SeesB.of0 (Sees0.old _) | exact SeesB.of0 (Sees0.oldagg _) | exact SeesB.of0 Sees0.nil | exact Sees0.val _ | exact Sees0.str _ | exact Sees0.olds _ _ | exact Sees0.old _ | exact Sees0.oldagg _ | exact Sees0.nil | exact SeesB.of0 (Sees0.any _) | assumption | exact sees_gv _ _ _ (by assumption) (by first | assumption | exact BoxIn.last _ _ | exact BoxIn.more (BoxIn.last _ _) _) | refine SeesB.agg ?_ | refine Sees0.agg ?_ | exact SeesB.of0 (Sees0.clo SeesL.nil SeesL.nil) | exact Sees0.clo SeesL.nil SeesL.nil | exact SeesB.of0 (Sees0.list rfl) | exact Sees0.list rfl) ?_)
  · rename_i h1
    rw [length_rows] at h1
    have := listSize_mem tCond (List.mem_of_getElem? (tCond_get (l := l) (i := i) (by omega)))
    rw [Int.toNat_natCast]; omega
  · rename_i h1
    rw [length_rows] at h1
    rw [part_len (sz := 5) rfl (tks_sz tCond l 0) (by rw [length_tks]; exact hi), Int.toNat_natCast, length_tks]
    exact ⟨rfl, by omega⟩
  · rename_i h1
    rw [length_rows] at h1
    refine ⟨i + 1, by omega, ?_, by omega⟩
    repeat' first
      | exact trivial | refine Weak.mk ?_ ?_ ?_ ?_ (Or.inl (Nat.le_of_ble_eq_true rfl)) | refine And.intro ?_ ?_ | with_reducible rfl | exact Nat.le_of_ble_eq_true rfl | refine AV.int_congr ?_ | refine AV.list_congr ?_ | refine AV.bsl_congr ?_ ?_
    · rw [wrap64 (by omega) (by omega)]; rfl
    · have := part_set (z := [.val (.int .i64 0), .str [], .val (.slice none 0 0), .str [], .str []]) (sz := 5) rfl (tks_sz tCond l 0) (tks_get tCond 0 (tCond_get (l := l) (i := i) (by omega)))
      rw [Nat.zero_add] at this
      simp only [List.set_cons_zero, List.take_succ_cons, List.take_zero, List.length_cons, List.length_nil, Int.toNat_natCast, this]
    · show frs tCond (l.take i) ++ tCond.fr (l.getD (i : Int).toNat default) = frs tCond (l.take (i + 1))
      rw [Int.toNat_natCast, take_succ' default (by omega), frs_append]; simp [frs]
  · rename_i h1
    rw [length_rows] at h1
    conv => whnf
    have : i = l.length := by omega
    subst this
    have hall := part_all [.val (.int .i64 0), .str [], .val (.slice none 0 0), .str [], .str []] (tks tCond l 0)
    rw [length_tks] at hall
    refine FreezeD.flat (Freeze.mk (tks tCond l 0) _ 83 5 rfl hall (length_tks _ _ _) (tks_sz tCond l 0) (fun c hc => ?_) ?_)
    · rw [hall] at hc; exact tks_nr tCond l 0 c hc
    · refine Final.mk ?_ ?_
      · rw [List.take_length, Nat.zero_add]
      · rw [List.take_length]; rfl
theorem szCondS.ret (l : List VCond) (a : Int) (h0 : 0 ≤ a) (ha : a ≤ 1048576) (hb : tConds.bd l) :
    szCondS.Ret [.list none (rows tCond l), .val (.int .i64 a)] (.val (.int .i64 (left a (tConds.size l)))) [] := by
  refine szCondS.of rfl ?_
  obtain ⟨hl, hb⟩ := hb
  have hw : IntKind.i64.wrap (a - ((rows tCond l).length : Int)) = a - l.length := by rw [length_rows]; exact wrap64 (by omega) (by omega)
  have hz := tConds_sz l
  repeat' first
    | (conv => whnf
       first | refine Need.mk rfl ?_ | refine Fork.dec (fun _ => ?_) (fun _ => ?_) | refine LitO.own rfl ?_ | refine FinVal.keep ?_ | refine Final.mk ?_ rfl)
    | refine AV.int_congr ?_
  · rename_i h
    rw [hw] at h
    rw [left, if_pos (by omega)]
  rename_i h
  rw [hw] at h
  skip
  refine ALoop.mk Nat (fun i => ⟨[(0, .list none (rows tCond l)), (1, .val (.int .i64 (a - l.length - listSize tCond (l.take i)))), (5, .val (.int .i64 i))], [], []⟩) (fun i => i ≤ l.length ∧ (0 : Int) ≤ a - l.length - listSize tCond (l.take i)) (fun i => l.length - i) ⟨0, ⟨Nat.zero_le _, by simp [listSize]; omega⟩, ?_⟩ (fun i hi => ?_)
  · repeat' first
      | exact trivial | refine Weak.mk ?_ ?_ ?_ ?_ (Or.inl (Nat.le_of_ble_eq_true rfl)) | refine And.intro ?_ ?_ | with_reducible rfl | exact Nat.le_of_ble_eq_true rfl | refine AV.int_congr ?_ | refine AV.list_congr ?_ | (apply rfl)
    rw [hw]; simp [listSize]
  obtain ⟨hp1, hp2⟩ := hi
  have hle := listSize_take_le tCond l (i + 1)
  have hbi : i < l.length → tCond.bd (l.getD i default) := fun h => hb _ (List.mem_of_getElem? (tCond_get h))
  have hsz : i < l.length → listSize tCond (l.take (i + 1)) = listSize tCond (l.take i) + tCond.size (l.getD i default) := fun h => listSize_take_succ tCond (tCond_get h)
  repeat' first
    | (conv => whnf
       first | refine Need.mk rfl ?_ | refine Need.mk (Nat.le_of_ble_eq_true rfl) ?_ | refine Ix.mapF (fun _ => rfl) ?_ | refine Fork.dec (fun _ => ?_) (fun _ => ?_) | refine Round.mk ?_ | refine LitO.own rfl ?_ | refine FinVal.keep ?_ | refine Final.mk ?_ rfl | refine ACall.scalA _ _ (szCond.ret _ _ ?_ ?_ ?_) rfl ?_)
    | refine AV.int_congr ?_
  · exact hp2
  · omega
  · rename_i h1
    rw [length_rows] at h1
    rw [Int.toNat_natCast]; exact hbi (by omega)
  · rename_i h1 h2
    rw [length_rows] at h1
    rw [Int.toNat_natCast] at h2
    have := hsz (by omega)
    unfold left at h2 ⊢
    split at h2
    · rw [if_pos (by omega)]
    · omega
  · rename_i h1 h2
    rw [length_rows] at h1
    rw [Int.toNat_natCast] at h2
    have := hsz (by omega)
    have e : left (a - ↑l.length - ↑(listSize tCond (l.take i))) (tCond.size (l.getD i default)) = a - ↑l.length - ↑(listSize tCond (l.take (i + 1))) := by
      unfold left at h2 ⊢
      split at h2
      · omega
      · rw [if_neg ‹_›]; omega
    refine ⟨i + 1, ⟨by omega, ?_⟩, ?_, by omega⟩
    · rw [← e]; omega
    · repeat' first
        | exact trivial | refine Weak.mk ?_ ?_ ?_ ?_ (Or.inl (Nat.le_of_ble_eq_true rfl)) | refine And.intro ?_ ?_ | with_reducible rfl | exact Nat.le_of_ble_eq_true rfl | refine AV.int_congr ?_ | refine AV.list_congr ?_ | (apply rfl)
      · rw [Int.toNat_natCast]; exact e
      · rw [wrap64 (by omega) (by omega)]; rfl
  · rename_i h1
    rw [length_rows] at h1
    rw [List.take_of_length_le (by omega)] at hp2 ⊢
    rw [left, if_neg (by omega)]; omega
theorem eqCondS.big (l m : List VCond) (h : tConds.size l ≤ 1099511627775) : eqCondS.Ret [.list none (rows tCond l), .list none (rows tCond m)] (.val (.bool (decide (l = m)))) [] := by
  refine eqCondS.of rfl ?_
  rw [tConds_sz] at h
  repeat' first
    | (conv => whnf
       first | refine Need.mk rfl ?_ | refine Fork.bne (fun _ => ?_) (fun _ => ?_) | refine LitO.own rfl ?_ | refine FinVal.keep ?_ | refine Final.mk ?_ rfl)
    | refine AV.bool_congr ?_
  · rename_i h
    rw [length_rows, length_rows] at h
    have h3 : ¬ l = m := fun e => h (by rw [e])
    simp [h3]
  rename_i h
  rw [length_rows, length_rows] at h
  have h : l.length = m.length := by omega
  skip
  refine ALoop.mk Nat (fun i => ⟨[(0, .list none (rows tCond l)), (1, .list none (rows tCond m)), (5, .val (.int .i64 i))], [], []⟩) (fun i => i ≤ l.length ∧ l.take i = m.take i) (fun i => l.length - i) ⟨0, ⟨Nat.zero_le _, rfl⟩, ?_⟩ (fun i hi => ?_)
  · repeat' first
      | exact trivial | refine Weak.mk ?_ ?_ ?_ ?_ (Or.inl (Nat.le_of_ble_eq_true rfl)) | refine And.intro ?_ ?_ | with_reducible rfl | exact Nat.le_of_ble_eq_true rfl | refine AV.int_congr ?_ | refine AV.list_congr ?_ | (apply rfl)
  repeat' first
    | (conv => whnf
       first | refine Need.mk rfl ?_ | refine Need.mk (Nat.le_of_ble_eq_true rfl) ?_ | refine Ix.mapF (fun _ => rfl) ?_ | refine Fork.dec (fun _ => ?_) (fun _ => ?_) | refine Fork.neg (fun _ => ?_) (fun _ => ?_) | refine Round.mk ?_ | refine LitO.own rfl ?_ | refine FinVal.keep ?_ | refine Final.mk ?_ rfl | refine AQCall.mkA _ _ (fun hg => eqCond.big _ _ ?_) rfl ?_)
    | refine AV.bool_congr ?_
  · rename_i h1
    rw [length_rows] at h1
    have := listSize_mem tCond (List.mem_of_getElem? (tCond_get (l := l) (i := i) (by omega)))
    rw [Int.toNat_natCast]; omega
  · rename_i h1 h2
    have h3 : ¬ l = m := fun e => of_decide_eq_false h2 (by rw [e])
    simp [h3]
  · rename_i h1 h2
    rw [length_rows] at h1
    rw [Int.toNat_natCast] at h2
    refine ⟨i + 1, ⟨by omega, ?_⟩, ?_, by omega⟩
    · rw [take_succ' default (by omega), take_succ' (l := m) default (by omega), hi.2, of_decide_eq_true h2]
    · repeat' first
        | exact trivial | refine Weak.mk ?_ ?_ ?_ ?_ (Or.inl (Nat.le_of_ble_eq_true rfl)) | refine And.intro ?_ ?_ | with_reducible rfl | exact Nat.le_of_ble_eq_true rfl | refine AV.int_congr ?_ | refine AV.list_congr ?_ | (apply rfl)
      rw [wrap64 (by omega) (by omega)]; rfl
  · rename_i h1
    rw [length_rows] at h1
    have h2 := hi.2
    rw [List.take_of_length_le (by omega), List.take_of_length_le (by omega)] at h2
    simp [h2]
theorem markCondS.tn (l : List VCond) (k : Nat) (hs : tConds.size l ≤ 1099511627775) (hk : k + cn (.l 83 5 (l.map tCond.q)) ≤ 1099511627775) :
    markCondS.Turn (gb (.l 83 5 (l.map tCond.q)) 0) [gv (.l 83 5 (l.map tCond.q)) 0, .val (.int .i64 k)] (.val (.int .i64 ((k + cn (.l 83 5 (l.map tCond.q)) : Nat)))) (gb (mk (.l 83 5 (l.map tCond.q)) k) 0) := by
  refine markCondS.ofT rfl rfl (by rw [length_gb, nb_mk]) ?_
  obtain ⟨cs, hcs⟩ : ∃ cs, cs = (l.map tCond.q).flatten := ⟨_, rfl⟩
  have hlen : cs.length = l.length * 5 := by rw [hcs]; exact flat_len _ 5 tCond.hq l
  have hc0 : ∀ i, i < l.length → cs[i * 5 + 0]? = some (.v (.int .i64 (l.getD i default).1)) := fun i hi => by rw [hcs]; exact cell_at tCond.q 5 tCond.hq hi rfl
  have hc1 : ∀ i, i < l.length → cs[i * 5 + 1]? = some (.s (l.getD i default).2.1.1) := fun i hi => by rw [hcs]; exact cell_at tCond.q 5 tCond.hq hi rfl
  have hc2 : ∀ i, i < l.length → cs[i * 5 + 2]? = some (.l 9 1 ((l.getD i default).2.1.2.map Ty.str.q)) := fun i hi => by rw [hcs]; exact cell_at tCond.q 5 tCond.hq hi rfl
  have hc3 : ∀ i, i < l.length → cs[i * 5 + 3]? = some (.s (l.getD i default).2.2.1) := fun i hi => by rw [hcs]; exact cell_at tCond.q 5 tCond.hq hi rfl
  have hc4 : ∀ i, i < l.length → cs[i * 5 + 4]? = some (.s (l.getD i default).2.2.2) := fun i hi => by rw [hcs]; exact cell_at tCond.q 5 tCond.hq hi rfl
  rw [gb_mk_l0, gb_l0, cn_l, gv, List.length_map, ← hcs]
  rw [cn_l, ← hcs] at hk
  clear hcs
  skip
  refine ALoop.mk Nat (fun i => ⟨[(0, .bsl 0 l.length), (1, .val (.int .i64 ((k + cnC (cs.take (i * 5)) : Nat)))), (5, .val (.int .i64 i))], .cells (.row 83 5) (gvL (st cs k (i * 5)) 1) :: gbL (st cs k (i * 5)) 1, []⟩) (fun i => i ≤ l.length) (fun i => l.length - i) ⟨0, Nat.zero_le _, ?_⟩ (fun i hi => ?_)
  · refine weak_st ⟨rfl, ?_, rfl, trivial⟩ ?_ ?_ rfl ?_
    · rw [Nat.zero_mul]; rfl
    · rw [Nat.zero_mul, st_zero]
    · rw [Nat.zero_mul, st_zero]
    · rw [Nat.zero_mul, st_zero, List.length_cons]; exact Nat.le_refl _
  have hle := cn_take_le cs (i * 5)
  rw [tConds_sz] at hs
  rcases Nat.lt_or_ge i l.length with hlt | hge
  rotate_left
  · have hiw : i * 5 = cs.length := by omega
    repeat' first
      | (conv => whnf
         first | refine Need.mk rfl ?_ | refine Fork.decNo (by omega) ?_ | refine forceBx_of ?_ | refine LitO.own rfl ?_ | refine FinalT.mk ?_ ?_)
      | refine AV.int_congr ?_
    · rw [hiw, List.take_length]
    · rw [hiw, st_all cs k rfl]; exact take_all (by rw [List.length_cons, List.length_cons, length_gbL, length_gbL, nbL_mkC]; exact Nat.le_refl _)
  have hi1 : (i + 1) * 5 = i * 5 + 5 := by omega
  have hsz := tCond_le hlt
  have hz13 := tCond_size (l.getD i default)
  have hz14 := tPattern_size (l.getD i default).2.1
  have l0 := cn_take_le cs (i * 5 + 1)
  have n0 : cnC (cs.take (i * 5 + 1)) = cnC (cs.take (i * 5)) + 1 := cn_succ (hc0 i hlt)
  have w0 : IntKind.i64.wrap (((k + cnC (cs.take (i * 5)) : Nat) : Int) + 1) = ((k + cnC (cs.take (i * 5 + 1)) : Nat) : Int) := by rw [wrap64 (by omega) (by omega)]; omega
  have b0 : gbL (st cs k (i * 5 + 1)) 1 = gbL (st cs k (i * 5)) 1 := gbL_st k 1 (hc0 i hlt) rfl
  have g0 : gvL (st cs k (i * 5 + 1)) 1 = (gvL (st cs k (i * 5)) 1).set (i * 5) (.val (.int .i64 (((k + cnC (cs.take (i * 5)) : Nat) : Int)))) := gvL_st k 1 (hc0 i hlt)
  have l1 := cn_take_le cs (i * 5 + 2)
  have n1 : cnC (cs.take (i * 5 + 2)) = cnC (cs.take (i * 5 + 1)) + 1 := cn_succ (hc1 i hlt)
  have w1 : IntKind.i64.wrap (IntKind.i64.wrap (((k + cnC (cs.take (i * 5)) : Nat) : Int) + 1) + 1) = ((k + cnC (cs.take (i * 5 + 2)) : Nat) : Int) := by rw [w0, wrap64 (by omega) (by omega)]; omega
  have b1 : gbL (st cs k (i * 5 + 2)) 1 = gbL (st cs k (i * 5 + 1)) 1 := gbL_st k 1 (hc1 i hlt) rfl
  have g1 : gvL (st cs k (i * 5 + 2)) 1 = (gvL (st cs k (i * 5 + 1)) 1).set (i * 5 + 1) (.str (markF (k + cnC (cs.take (i * 5 + 1))))) := gvL_st k 1 (hc1 i hlt)
  repeat' first
    | (conv => whnf
       first | refine Need.mk rfl ?_ | refine Need.fin ?_ | refine Need.mk ⟨rfl, by simp only [length_setAt, List.length_set, length_gvL, length_st, Int.toNat_natCast]; omega⟩ ?_ | refine Fork.decYes (by omega) ?_ | refine forceBx_of ?_ | refine LitO.own rfl ?_)
  conv => whnf
  refine ACall.scal [.val (.int .i64 ((k + cnC (cs.take (i * 5 + 1)) : Nat)))] _ (markText.ret (k + cnC (cs.take (i * 5 + 1))) (by omega)) rfl (.cons (SeesB.of0 (by rw [w0]; exact Sees0.val _)) .nil) ?_
  repeat' first
    | (conv => whnf
       first | refine Need.mk rfl ?_ | refine Need.fin ?_ | refine Need.mk ⟨rfl, by simp only [length_setAt, List.length_set, length_gvL, length_st, Int.toNat_natCast]; omega⟩ ?_ | refine LitO.own rfl ?_)
  have l2 := cn_take_le cs (i * 5 + 3)
  have n2 : cnC (cs.take (i * 5 + 3)) = cnC (cs.take (i * 5 + 2)) + cn (.l 9 1 ((l.getD i default).2.1.2.map Ty.str.q)) := cn_succ (hc2 i hlt)
  have g2 : gvL (st cs k (i * 5 + 3)) 1 = gvL (st cs k (i * 5 + 2)) 1 := gvL_stL k 1 (hc2 i hlt)
  have t2 : markStringS.Turn (gb (.l 9 1 ((l.getD i default).2.1.2.map Ty.str.q)) 0) [gv (.l 9 1 ((l.getD i default).2.1.2.map Ty.str.q)) 0, .val (.int .i64 ((k + cnC (cs.take (i * 5 + 2)) : Nat)))] (.val (.int .i64 ((k + cnC (cs.take (i * 5 + 3)) : Nat)))) (gb (mk (.l 9 1 ((l.getD i default).2.1.2.map Ty.str.q)) (k + cnC (cs.take (i * 5 + 2)))) 0) := by
    have h := markStringS.tn (l.getD i default).2.1.2 (k + cnC (cs.take (i * 5 + 2))) (by omega) (by omega)
    rw [Nat.add_assoc, ← n2] at h; exact h
  have d2 : (((gvL (st cs k (i * 5)) 1).set (i * 5) (.val (.int .i64 (((k + cnC (cs.take (i * 5)) : Nat) : Int))))).set (i * 5 + 1) (.str (markF (k + cnC (cs.take (i * 5 + 1)))))).drop (i * 5 + 2) = gv (.l 9 1 ((l.getD i default).2.1.2.map Ty.str.q)) (1 + nbL (cs.take (i * 5 + 2))) :: gvL (cs.drop (i * 5 + 2 + 1)) (1 + nbL (cs.take (i * 5 + 2)) + nb (.l 9 1 ((l.getD i default).2.1.2.map Ty.str.q))) := by
    have h := ld_st k 1 (hc2 i hlt)
    try simp only [Nat.add_zero] at h
    rw [g1, g0] at h
    exact h
  conv => whnf
  refine takeAV_one (n := 1) _ _ d2 ?_
  conv => whnf
  refine ACall.turn' (.cells (.row 83 5) (((gvL (st cs k (i * 5)) 1).set (i * 5) (.val (.int .i64 (((k + cnC (cs.take (i * 5)) : Nat) : Int))))).set (i * 5 + 1) (.str (markF (k + cnC (cs.take (i * 5 + 1)))))) :: gbL (st cs k (i * 5 + 3)) 1) [gv (.l 9 1 ((l.getD i default).2.1.2.map Ty.str.q)) 0, .val (.int .i64 ((k + cnC (cs.take (i * 5 + 2)) : Nat)))] (.l 9 1 ((l.getD i default).2.1.2.map Ty.str.q)) (mk (.l 9 1 ((l.getD i default).2.1.2.map Ty.str.q)) (k + cnC (cs.take (i * 5 + 2)))) _ (.cells (.row 83 5) (((gvL (st cs k (i * 5)) 1).set (i * 5) (.val (.int .i64 (((k + cnC (cs.take (i * 5)) : Nat) : Int))))).set (i * 5 + 1) (.str (markF (k + cnC (cs.take (i * 5 + 1)))))) :: gbL (mkC (cs.take (i * 5 + 2)) k) 1) (gbL (cs.drop (i * 5 + 2 + 1)) (1 + nbL (cs.take (i * 5 + 2)) + nb (.l 9 1 ((l.getD i default).2.1.2.map Ty.str.q)))) t2 rfl ?_ (nb_mk _ _) (.cons (.inl ⟨by rw [pre_st]; rfl, rfl⟩) (.cons (.inr (by rw [w1]; exact Sees0.val _)) .nil)) ?_ ?_
  · rw [← b0]; rw [← b1]; exact bx_st k (hc2 i hlt) _
  · exact bx_st' k (hc2 i hlt) _
  skip
  have l3 := cn_take_le cs (i * 5 + 4)
  have n3 : cnC (cs.take (i * 5 + 4)) = cnC (cs.take (i * 5 + 3)) + 1 := cn_succ (hc3 i hlt)
  have w3 : IntKind.i64.wrap (((k + cnC (cs.take (i * 5 + 3)) : Nat) : Int) + 1) = ((k + cnC (cs.take (i * 5 + 4)) : Nat) : Int) := by rw [wrap64 (by omega) (by omega)]; omega
  have b3 : gbL (st cs k (i * 5 + 4)) 1 = gbL (st cs k (i * 5 + 3)) 1 := gbL_st k 1 (hc3 i hlt) rfl
  have g3 : gvL (st cs k (i * 5 + 4)) 1 = (gvL (st cs k (i * 5 + 3)) 1).set (i * 5 + 3) (.str (markF (k + cnC (cs.take (i * 5 + 3))))) := gvL_st k 1 (hc3 i hlt)
  conv => whnf
  refine ACall.scal [.val (.int .i64 ((k + cnC (cs.take (i * 5 + 3)) : Nat)))] _ (markText.ret (k + cnC (cs.take (i * 5 + 3))) (by omega)) rfl (.cons (SeesB.of0 (by exact Sees0.val _)) .nil) ?_
  repeat' first
    | (conv => whnf
       first | refine Need.mk rfl ?_ | refine Need.fin ?_ | refine Need.mk ⟨rfl, by simp only [length_setAt, List.length_set, length_gvL, length_st, Int.toNat_natCast]; omega⟩ ?_ | refine LitO.own rfl ?_)
  have l4 := cn_take_le cs (i * 5 + 5)
  have n4 : cnC (cs.take (i * 5 + 5)) = cnC (cs.take (i * 5 + 4)) + 1 := cn_succ (hc4 i hlt)
  have w4 : IntKind.i64.wrap (IntKind.i64.wrap (((k + cnC (cs.take (i * 5 + 3)) : Nat) : Int) + 1) + 1) = ((k + cnC (cs.take (i * 5 + 5)) : Nat) : Int) := by rw [w3, wrap64 (by omega) (by omega)]; omega
  have b4 : gbL (st cs k (i * 5 + 5)) 1 = gbL (st cs k (i * 5 + 4)) 1 := gbL_st k 1 (hc4 i hlt) rfl
  have g4 : gvL (st cs k (i * 5 + 5)) 1 = (gvL (st cs k (i * 5 + 4)) 1).set (i * 5 + 4) (.str (markF (k + cnC (cs.take (i * 5 + 4))))) := gvL_st k 1 (hc4 i hlt)
  conv => whnf
  refine ACall.scal [.val (.int .i64 ((k + cnC (cs.take (i * 5 + 4)) : Nat)))] _ (markText.ret (k + cnC (cs.take (i * 5 + 4))) (by omega)) rfl (.cons (SeesB.of0 (by rw [w3]; exact Sees0.val _)) .nil) ?_
  repeat' first
    | (conv => whnf
       first | refine Need.mk rfl ?_ | refine Need.fin ?_ | refine Need.mk ⟨rfl, by simp only [length_setAt, List.length_set, length_gvL, length_st, Int.toNat_natCast]; omega⟩ ?_ | refine Round.mk ?_ | refine LitO.own rfl ?_)
  refine ⟨i + 1, by omega, weak_st ⟨rfl, AV.int_congr ?_, AV.int_congr ?_, trivial⟩ (congrArg (ABox.cells (.row 83 5)) ?_) ?_ rfl ?_, by omega⟩
  · rw [hi1]; exact w4
  · rw [wrap64 (by omega) (by omega)]; rfl
  · rw [hi1, g4, g3, g2, g1, g0]
    try rfl
  · rw [hi1, b4, b3]
  · simp only [hi1, List.length_cons, length_gbL, nbL_st, Nat.le_refl]
theorem heldCondS.hd (l : List VCond) (k : Nat) (hs : tConds.size l ≤ 1099511627775) (hk : k + cn (.l 83 5 (l.map tCond.q)) ≤ 1099511627775) : heldCondS.Ret [old (mk (.l 83 5 (l.map tCond.q)) k), .val (.int .i64 k)] (.val (.int .i64 ((k + cn (.l 83 5 (l.map tCond.q)) : Nat)))) [] := by
  refine heldCondS.ofS rfl rfl ?_
  have hl : (oldLL (mkLL (l.map tCond.q) k)).length = l.length := by rw [length_oldLL, length_mkLL, List.length_map]
  change k + cnLL (l.map tCond.q) ≤ _ at hk
  show aCode _ _ _ _ (doneS _ (.val (.int .i64 ((k + cnLL (l.map tCond.q) : Nat))))) ⟨argEnv 0 [.list none (oldLL (mkLL (l.map tCond.q) k)), .val (.int .i64 k)], [], []⟩
  repeat' first
    | contradiction | exact trivial
    | (conv => whnf
       first | refine Need.mk (fun h => h) ?_ | refine Need.mk rfl ?_ | refine Need.mk ⟨rfl, Nat.le_of_ble_eq_true rfl⟩ ?_ | refine Need.mk (Nat.le_of_ble_eq_true rfl) ?_ | refine Need.fin ?_ | refine Need.mk ?_ ?_ | refine Ix.strsF rfl ?_ | refine Ix.strs rfl ?_ ?_ | refine Cut.strs rfl ?_ ?_ | refine Ix.mapF (fun _ => rfl) ?_ | refine Ix.map (fun _ => rfl) ?_ ?_ | refine Cut.map (fun _ => rfl) ?_ ?_ | refine Fork.yes (by assumption) ?_ | refine Fork.no (by assumption) ?_ | refine Fork.decYes (by omega) ?_ | refine Fork.decNo (by omega) ?_ | refine Fork.dec (fun _ => ?_) (fun _ => ?_) | refine Fork.bne (fun _ => ?_) (fun _ => ?_) | refine Fork.beq (fun _ => ?_) (fun _ => ?_) | refine Fork.seq (fun _ => ?_) (fun _ => ?_) | refine Fork.sne (fun _ => ?_) (fun _ => ?_) | refine Fork.neg (fun _ => ?_) (fun _ => ?_) | refine Fork.mk (fun _ => ?_) (fun _ => ?_) | refine HAlt.mk ?_ ?_ | apply HJoin.mk3 | exact HEnd.mk rfl rfl rfl | refine HEnd.mk ?_ ?_ ?_ | refine Round.mk ?_ | refine NilQ.mk (fun b hb => ?_) | refine forceK_of ?_ | refine forceBx_of ?_ | refine unG_old ?_ | refine unG_gv ?_ | refine Lit.read rfl ?_ | refine LitO.own rfl ?_ | refine FinVal.keep ?_ | refine FinAgg.keep ?_ | refine Final.mk rfl rfl | refine Final.mk ?_ rfl | refine Final.mk ?_ ?_ | refine FinalT.mk ?_ ?_ | refine FinalI.mk ?_ | refine FinalC.allA ?_)
    | refine AV.bool_congr ?_ | refine AV.int_congr ?_ | refine AV.str_congr ?_ | refine AV.list_congr ?_ | with_reducible rfl | refine fr1 ?_ | refine fr2 ?_ ?_
  refine ALoop.mk Nat (fun i => ⟨[(0, .list none (oldLL (mkLL (l.map tCond.q) k))), (1, .val (.int .i64 ((k + cnLL ((l.map tCond.q).take i) : Nat)))), (5, .val (.int .i64 i))], [], []⟩) (fun i => i ≤ l.length) (fun i => l.length - i) ⟨0, Nat.zero_le _, ?_⟩ (fun i hi => ?_)
  · repeat' first
      | exact trivial | refine Weak.mk ?_ ?_ ?_ ?_ (Or.inl (Nat.le_of_ble_eq_true rfl)) | refine Weak.mk ?_ ?_ ?_ ?_ (Or.inr ⟨(by repeat' first | exact trivial | exact Nat.le_of_ble_eq_true rfl | refine And.intro ?_ ?_), (by repeat' first | exact trivial | exact Nat.le_of_ble_eq_true rfl | refine And.intro ?_ ?_)⟩) | refine Weak.mk ?_ ?_ ?_ ?_ ?_ | refine And.intro ?_ ?_ | with_reducible rfl | exact Nat.le_of_ble_eq_true rfl | refine fr1 ?_ | refine fr2 ?_ ?_ | refine AV.int_congr ?_ | refine AV.bool_congr ?_ | refine AV.str_congr ?_ | refine AV.list_congr ?_ | refine AV.bsl_congr ?_ ?_ | (apply rfl)
  rw [tConds_sz] at hs
  rcases Nat.lt_or_ge i l.length with hlt | hge
  rotate_left
  · have hil : (l.map tCond.q).take i = l.map tCond.q := List.take_of_length_le (by rw [List.length_map]; exact hge)
    repeat' first
      | contradiction | exact trivial
      | (conv => whnf
         first | refine Need.mk (fun h => h) ?_ | refine Need.mk rfl ?_ | refine Need.mk ⟨rfl, Nat.le_of_ble_eq_true rfl⟩ ?_ | refine Need.mk (Nat.le_of_ble_eq_true rfl) ?_ | refine Need.fin ?_ | refine Need.mk ?_ ?_ | refine Ix.strsF rfl ?_ | refine Ix.strs rfl ?_ ?_ | refine Cut.strs rfl ?_ ?_ | refine Ix.mapF (fun _ => rfl) ?_ | refine Ix.map (fun _ => rfl) ?_ ?_ | refine Cut.map (fun _ => rfl) ?_ ?_ | refine Fork.yes (by assumption) ?_ | refine Fork.no (by assumption) ?_ | refine Fork.decYes (by omega) ?_ | refine Fork.decNo (by omega) ?_ | refine Fork.dec (fun _ => ?_) (fun _ => ?_) | refine Fork.bne (fun _ => ?_) (fun _ => ?_) | refine Fork.beq (fun _ => ?_) (fun _ => ?_) | refine Fork.seq (fun _ => ?_) (fun _ => ?_) | refine Fork.sne (fun _ => ?_) (fun _ => ?_) | refine Fork.neg (fun _ => ?_) (fun _ => ?_) | refine Fork.mk (fun _ => ?_) (fun _ => ?_) | refine HAlt.mk ?_ ?_ | apply HJoin.mk3 | exact HEnd.mk rfl rfl rfl | refine HEnd.mk ?_ ?_ ?_ | refine Round.mk ?_ | refine NilQ.mk (fun b hb => ?_) | refine forceK_of ?_ | refine forceBx_of ?_ | refine unG_old ?_ | refine unG_gv ?_ | refine Lit.read rfl ?_ | refine LitO.own rfl ?_ | refine FinVal.keep ?_ | refine FinAgg.keep ?_ | refine Final.mk rfl rfl | refine Final.mk ?_ rfl | refine Final.mk ?_ ?_ | refine FinalT.mk ?_ ?_ | refine FinalI.mk ?_ | refine FinalC.allA ?_)
      | refine AV.bool_congr ?_ | refine AV.int_congr ?_ | refine AV.str_congr ?_ | refine AV.list_congr ?_ | with_reducible rfl | refine fr1 ?_ | refine fr2 ?_ ?_
    rw [hil]
  have hx : (l.map tCond.q)[i]? = some (tCond.q (l.getD i default)) := by rw [List.getElem?_map, tCond_get hlt]; rfl
  have hle := cnLL_take_le (l.map tCond.q) (i + 1)
  have hn := cnLL_succ hx
  have hsz := tCond_le hlt
  have hz15 := tCond_size (l.getD i default)
  have hz16 := tPattern_size (l.getD i default).2.1
  obtain ⟨K, hK⟩ : ∃ K, K = k + cnLL ((l.map tCond.q).take i) := ⟨_, rfl⟩
  have hix : (0 : Int) ≤ (i : Int) ∧ (oldLL (mkLL (l.map tCond.q) k))[(i : Int).toNat]? = some (oldL (mkC (tCond.q (l.getD i default)) K)) ∧ (oldL (mkC (tCond.q (l.getD i default)) K)).length = 5 := by
    refine ⟨by omega, ?_, by rw [oldL_eq, List.length_map, length_mkC, tCond.hq]; rfl⟩
    rw [Int.toNat_natCast, oldLL_eq, List.getElem?_map, mkLL_get _ _ _ _ hx, oldL_eq, hK]; rfl
  have hKn : k + cnLL ((l.map tCond.q).take (i + 1)) = K + 1 + 1 + cn (.l 9 1 ((l.getD i default).2.1.2.map Ty.str.q)) + 1 + 1 := by
    rw [hn, ← Nat.add_assoc, ← hK]
    show K + (1 + (1 + (cn (.l 9 1 ((l.getD i default).2.1.2.map Ty.str.q)) + (1 + (1 + (0)))))) = _
    simp only [Nat.add_assoc, Nat.add_zero]
  rw [← hK]
  have w0 : IntKind.i64.wrap (((K : Nat) : Int) + 1) = ((K + 1 : Nat) : Int) := by rw [wrap64 (by omega) (by omega)]; omega
  repeat' first
    | contradiction | exact trivial
    | (conv => whnf
       first | refine Need.mk (fun h => h) ?_ | refine Need.mk rfl ?_ | refine Need.mk ⟨rfl, Nat.le_of_ble_eq_true rfl⟩ ?_ | refine Need.mk (Nat.le_of_ble_eq_true rfl) ?_ | refine Need.fin ?_ | refine Need.mk ?_ ?_ | refine Ix.mk _ (fun _ => hix) ?_ | refine Ix.strsF rfl ?_ | refine Ix.strs rfl ?_ ?_ | refine Cut.strs rfl ?_ ?_ | refine Ix.mapF (fun _ => rfl) ?_ | refine Ix.map (fun _ => rfl) ?_ ?_ | refine Cut.map (fun _ => rfl) ?_ ?_ | refine Fork.yes (by assumption) ?_ | refine Fork.no (by assumption) ?_ | refine Fork.decYes (by omega) ?_ | refine Fork.decNo (by omega) ?_ | refine Fork.dec (fun _ => ?_) (fun _ => ?_) | refine Fork.seq (fun _ => ?_) (fun _ => ?_) | refine Fork.sne (fun _ => ?_) (fun _ => ?_) | refine HAlt.mk ?_ ?_ | apply HJoin.mk3 | exact HEnd.mk rfl rfl rfl | refine HEnd.mk ?_ ?_ ?_ | refine Round.mk ?_ | refine NilQ.mk (fun b hb => ?_) | refine forceK_of ?_ | refine forceBx_of ?_ | refine unG_old ?_ | refine unG_gv ?_ | refine Lit.read rfl ?_ | refine LitO.own rfl ?_ | refine FinVal.keep ?_ | refine FinAgg.keep ?_ | refine Final.mk rfl rfl | refine Final.mk ?_ rfl | refine Final.mk ?_ ?_ | refine FinalT.mk ?_ ?_ | refine FinalI.mk ?_ | refine FinalC.allA ?_)
    | refine AV.bool_congr ?_ | refine AV.int_congr ?_ | refine AV.str_congr ?_ | refine AV.list_congr ?_ | with_reducible rfl | refine fr1 ?_ | refine fr2 ?_ ?_
  conv => whnf
  refine Fork.bne (fun h => absurd (show ((K : Nat) : Int) = _ by rfl) h) (fun _ => ?_)
  have w1 : IntKind.i64.wrap (IntKind.i64.wrap (((K : Nat) : Int) + 1) + 1) = ((K + 1 + 1 : Nat) : Int) := by rw [w0, wrap64 (by omega) (by omega)]; omega
  repeat' first
    | contradiction | exact trivial
    | (conv => whnf
       first | refine Need.mk (fun h => h) ?_ | refine Need.mk rfl ?_ | refine Need.mk ⟨rfl, Nat.le_of_ble_eq_true rfl⟩ ?_ | refine Need.mk (Nat.le_of_ble_eq_true rfl) ?_ | refine Need.fin ?_ | refine Need.mk ?_ ?_ | refine Ix.mk _ (fun _ => hix) ?_ | refine Ix.strsF rfl ?_ | refine Ix.strs rfl ?_ ?_ | refine Cut.strs rfl ?_ ?_ | refine Ix.mapF (fun _ => rfl) ?_ | refine Ix.map (fun _ => rfl) ?_ ?_ | refine Cut.map (fun _ => rfl) ?_ ?_ | refine Fork.yes (by assumption) ?_ | refine Fork.no (by assumption) ?_ | refine Fork.decYes (by omega) ?_ | refine Fork.decNo (by omega) ?_ | refine Fork.dec (fun _ => ?_) (fun _ => ?_) | refine Fork.bne (fun _ => ?_) (fun _ => ?_) | refine Fork.beq (fun _ => ?_) (fun _ => ?_) | refine Fork.seq (fun _ => ?_) (fun _ => ?_) | refine Fork.sne (fun _ => ?_) (fun _ => ?_) | refine Fork.neg (fun _ => ?_) (fun _ => ?_) | refine Fork.mk (fun _ => ?_) (fun _ => ?_) | refine HAlt.mk ?_ ?_ | apply HJoin.mk3 | exact HEnd.mk rfl rfl rfl | refine HEnd.mk ?_ ?_ ?_ | refine Round.mk ?_ | refine NilQ.mk (fun b hb => ?_) | refine forceK_of ?_ | refine forceBx_of ?_ | refine unG_old ?_ | refine unG_gv ?_ | refine Lit.read rfl ?_ | refine LitO.own rfl ?_ | refine FinVal.keep ?_ | refine FinAgg.keep ?_ | refine Final.mk rfl rfl | refine Final.mk ?_ rfl | refine Final.mk ?_ ?_ | refine FinalT.mk ?_ ?_ | refine FinalI.mk ?_ | refine FinalC.allA ?_)
    | refine AV.bool_congr ?_ | refine AV.int_congr ?_ | refine AV.str_congr ?_ | refine AV.list_congr ?_ | with_reducible rfl | refine fr1 ?_ | refine fr2 ?_ ?_
  conv => whnf
  first
    | refine AQCall.mk [.val (.int .i64 ((K + 1 : Nat)))] _ (fun _ => markText.ret (K + 1) (by omega)) rfl (fun _ => .cons (SeesB.of0 (by rw [w0]; exact Sees0.val _)) .nil) ?_
    | refine ACall.scal [.val (.int .i64 ((K + 1 : Nat)))] _ (markText.ret (K + 1) (by omega)) rfl (.cons (SeesB.of0 (by rw [w0]; exact Sees0.val _)) .nil) ?_
  conv => whnf
  refine Fork.sne (fun h => absurd rfl h) (fun _ => ?_)
  repeat' first
    | contradiction | exact trivial
    | (conv => whnf
       first | refine Need.mk (fun h => h) ?_ | refine Need.mk rfl ?_ | refine Need.mk ⟨rfl, Nat.le_of_ble_eq_true rfl⟩ ?_ | refine Need.mk (Nat.le_of_ble_eq_true rfl) ?_ | refine Need.fin ?_ | refine Need.mk ?_ ?_ | refine Ix.mk _ (fun _ => hix) ?_ | refine Ix.strsF rfl ?_ | refine Ix.strs rfl ?_ ?_ | refine Cut.strs rfl ?_ ?_ | refine Ix.mapF (fun _ => rfl) ?_ | refine Ix.map (fun _ => rfl) ?_ ?_ | refine Cut.map (fun _ => rfl) ?_ ?_ | refine Fork.yes (by assumption) ?_ | refine Fork.no (by assumption) ?_ | refine Fork.decYes (by omega) ?_ | refine Fork.decNo (by omega) ?_ | refine Fork.dec (fun _ => ?_) (fun _ => ?_) | refine Fork.bne (fun _ => ?_) (fun _ => ?_) | refine Fork.beq (fun _ => ?_) (fun _ => ?_) | refine Fork.seq (fun _ => ?_) (fun _ => ?_) | refine Fork.sne (fun _ => ?_) (fun _ => ?_) | refine Fork.neg (fun _ => ?_) (fun _ => ?_) | refine Fork.mk (fun _ => ?_) (fun _ => ?_) | refine HAlt.mk ?_ ?_ | apply HJoin.mk3 | exact HEnd.mk rfl rfl rfl | refine HEnd.mk ?_ ?_ ?_ | refine Round.mk ?_ | refine NilQ.mk (fun b hb => ?_) | refine forceK_of ?_ | refine forceBx_of ?_ | refine unG_old ?_ | refine unG_gv ?_ | refine Lit.read rfl ?_ | refine LitO.own rfl ?_ | refine FinVal.keep ?_ | refine FinAgg.keep ?_ | refine Final.mk rfl rfl | refine Final.mk ?_ rfl | refine Final.mk ?_ ?_ | refine FinalT.mk ?_ ?_ | refine FinalI.mk ?_ | refine FinalC.allA ?_)
    | refine AV.bool_congr ?_ | refine AV.int_congr ?_ | refine AV.str_congr ?_ | refine AV.list_congr ?_ | with_reducible rfl | refine fr1 ?_ | refine fr2 ?_ ?_
  conv => whnf
  refine ACall.scal [old (mk (.l 9 1 ((l.getD i default).2.1.2.map Ty.str.q)) (K + 1 + 1)), .val (.int .i64 ((K + 1 + 1 : Nat)))] _ (heldStringS.hd (l.getD i default).2.1.2 (K + 1 + 1) (by omega) (by omega)) rfl (.cons (SeesB.of0 (Sees0.olds _ _)) (.cons (SeesB.of0 (by rw [w1]; exact Sees0.val _)) .nil)) ?_
  have w3 : IntKind.i64.wrap (((K + 1 + 1 + cn (.l 9 1 ((l.getD i default).2.1.2.map Ty.str.q)) : Nat) : Int) + 1) = ((K + 1 + 1 + cn (.l 9 1 ((l.getD i default).2.1.2.map Ty.str.q)) + 1 : Nat) : Int) := by rw [wrap64 (by omega) (by omega)]; omega
  repeat' first
    | contradiction | exact trivial
    | (conv => whnf
       first | refine Need.mk (fun h => h) ?_ | refine Need.mk rfl ?_ | refine Need.mk ⟨rfl, Nat.le_of_ble_eq_true rfl⟩ ?_ | refine Need.mk (Nat.le_of_ble_eq_true rfl) ?_ | refine Need.fin ?_ | refine Need.mk ?_ ?_ | refine Ix.mk _ (fun _ => hix) ?_ | refine Ix.strsF rfl ?_ | refine Ix.strs rfl ?_ ?_ | refine Cut.strs rfl ?_ ?_ | refine Ix.mapF (fun _ => rfl) ?_ | refine Ix.map (fun _ => rfl) ?_ ?_ | refine Cut.map (fun _ => rfl) ?_ ?_ | refine Fork.yes (by assumption) ?_ | refine Fork.no (by assumption) ?_ | refine Fork.decYes (by omega) ?_ | refine Fork.decNo (by omega) ?_ | refine Fork.dec (fun _ => ?_) (fun _ => ?_) | refine Fork.bne (fun _ => ?_) (fun _ => ?_) | refine Fork.beq (fun _ => ?_) (fun _ => ?_) | refine Fork.seq (fun _ => ?_) (fun _ => ?_) | refine Fork.sne (fun _ => ?_) (fun _ => ?_) | refine Fork.neg (fun _ => ?_) (fun _ => ?_) | refine Fork.mk (fun _ => ?_) (fun _ => ?_) | refine HAlt.mk ?_ ?_ | apply HJoin.mk3 | exact HEnd.mk rfl rfl rfl | refine HEnd.mk ?_ ?_ ?_ | refine Round.mk ?_ | refine NilQ.mk (fun b hb => ?_) | refine forceK_of ?_ | refine forceBx_of ?_ | refine unG_old ?_ | refine unG_gv ?_ | refine Lit.read rfl ?_ | refine LitO.own rfl ?_ | refine FinVal.keep ?_ | refine FinAgg.keep ?_ | refine Final.mk rfl rfl | refine Final.mk ?_ rfl | refine Final.mk ?_ ?_ | refine FinalT.mk ?_ ?_ | refine FinalI.mk ?_ | refine FinalC.allA ?_)
    | refine AV.bool_congr ?_ | refine AV.int_congr ?_ | refine AV.str_congr ?_ | refine AV.list_congr ?_ | with_reducible rfl | refine fr1 ?_ | refine fr2 ?_ ?_
  conv => whnf
  first
    | refine AQCall.mk [.val (.int .i64 ((K + 1 + 1 + cn (.l 9 1 ((l.getD i default).2.1.2.map Ty.str.q)) : Nat)))] _ (fun _ => markText.ret (K + 1 + 1 + cn (.l 9 1 ((l.getD i default).2.1.2.map Ty.str.q))) (by omega)) rfl (fun _ => .cons (SeesB.of0 (by exact Sees0.val _)) .nil) ?_
    | refine ACall.scal [.val (.int .i64 ((K + 1 + 1 + cn (.l 9 1 ((l.getD i default).2.1.2.map Ty.str.q)) : Nat)))] _ (markText.ret (K + 1 + 1 + cn (.l 9 1 ((l.getD i default).2.1.2.map Ty.str.q))) (by omega)) rfl (.cons (SeesB.of0 (by exact Sees0.val _)) .nil) ?_
  conv => whnf
  refine Fork.sne (fun h => absurd rfl h) (fun _ => ?_)
  have w4 : IntKind.i64.wrap (IntKind.i64.wrap (((K + 1 + 1 + cn (.l 9 1 ((l.getD i default).2.1.2.map Ty.str.q)) : Nat) : Int) + 1) + 1) = ((K + 1 + 1 + cn (.l 9 1 ((l.getD i default).2.1.2.map Ty.str.q)) + 1 + 1 : Nat) : Int) := by rw [w3, wrap64 (by omega) (by omega)]; omega
  repeat' first
    | contradiction | exact trivial
    | (conv => whnf
       first | refine Need.mk (fun h => h) ?_ | refine Need.mk rfl ?_ | refine Need.mk ⟨rfl, Nat.le_of_ble_eq_true rfl⟩ ?_ | refine Need.mk (Nat.le_of_ble_eq_true rfl) ?_ | refine Need.fin ?_ | refine Need.mk ?_ ?_ | refine Ix.mk _ (fun _ => hix) ?_ | refine Ix.strsF rfl ?_ | refine Ix.strs rfl ?_ ?_ | refine Cut.strs rfl ?_ ?_ | refine Ix.mapF (fun _ => rfl) ?_ | refine Ix.map (fun _ => rfl) ?_ ?_ | refine Cut.map (fun _ => rfl) ?_ ?_ | refine Fork.yes (by assumption) ?_ | refine Fork.no (by assumption) ?_ | refine Fork.decYes (by omega) ?_ | refine Fork.decNo (by omega) ?_ | refine Fork.dec (fun _ => ?_) (fun _ => ?_) | refine Fork.bne (fun _ => ?_) (fun _ => ?_) | refine Fork.beq (fun _ => ?_) (fun _ => ?_) | refine Fork.seq (fun _ => ?_) (fun _ => ?_) | refine Fork.sne (fun _ => ?_) (fun _ => ?_) | refine Fork.neg (fun _ => ?_) (fun _ => ?_) | refine Fork.mk (fun _ => ?_) (fun _ => ?_) | refine HAlt.mk ?_ ?_ | apply HJoin.mk3 | exact HEnd.mk rfl rfl rfl | refine HEnd.mk ?_ ?_ ?_ | refine Round.mk ?_ | refine NilQ.mk (fun b hb => ?_) | refine forceK_of ?_ | refine forceBx_of ?_ | refine unG_old ?_ | refine unG_gv ?_ | refine Lit.read rfl ?_ | refine LitO.own rfl ?_ | refine FinVal.keep ?_ | refine FinAgg.keep ?_ | refine Final.mk rfl rfl | refine Final.mk ?_ rfl | refine Final.mk ?_ ?_ | refine FinalT.mk ?_ ?_ | refine FinalI.mk ?_ | refine FinalC.allA ?_)
    | refine AV.bool_congr ?_ | refine AV.int_congr ?_ | refine AV.str_congr ?_ | refine AV.list_congr ?_ | with_reducible rfl | refine fr1 ?_ | refine fr2 ?_ ?_
  conv => whnf
  first
    | refine AQCall.mk [.val (.int .i64 ((K + 1 + 1 + cn (.l 9 1 ((l.getD i default).2.1.2.map Ty.str.q)) + 1 : Nat)))] _ (fun _ => markText.ret (K + 1 + 1 + cn (.l 9 1 ((l.getD i default).2.1.2.map Ty.str.q)) + 1) (by omega)) rfl (fun _ => .cons (SeesB.of0 (by rw [w3]; exact Sees0.val _)) .nil) ?_
    | refine ACall.scal [.val (.int .i64 ((K + 1 + 1 + cn (.l 9 1 ((l.getD i default).2.1.2.map Ty.str.q)) + 1 : Nat)))] _ (markText.ret (K + 1 + 1 + cn (.l 9 1 ((l.getD i default).2.1.2.map Ty.str.q)) + 1) (by omega)) rfl (.cons (SeesB.of0 (by rw [w3]; exact Sees0.val _)) .nil) ?_
  conv => whnf
  refine Fork.sne (fun h => absurd rfl h) (fun _ => ?_)
  repeat' first
    | contradiction | exact trivial
    | (conv => whnf
       first | refine Need.mk (fun h => h) ?_ | refine Need.mk rfl ?_ | refine Need.mk ⟨rfl, Nat.le_of_ble_eq_true rfl⟩ ?_ | refine Need.mk (Nat.le_of_ble_eq_true rfl) ?_ | refine Need.fin ?_ | refine Need.mk ?_ ?_ | refine Ix.mk _ (fun _ => hix) ?_ | refine Ix.strsF rfl ?_ | refine Ix.strs rfl ?_ ?_ | refine Cut.strs rfl ?_ ?_ | refine Ix.mapF (fun _ => rfl) ?_ | refine Ix.map (fun _ => rfl) ?_ ?_ | refine Cut.map (fun _ => rfl) ?_ ?_ | refine Fork.yes (by assumption) ?_ | refine Fork.no (by assumption) ?_ | refine Fork.decYes (by omega) ?_ | refine Fork.decNo (by omega) ?_ | refine Fork.dec (fun _ => ?_) (fun _ => ?_) | refine Fork.bne (fun _ => ?_) (fun _ => ?_) | refine Fork.beq (fun _ => ?_) (fun _ => ?_) | refine Fork.seq (fun _ => ?_) (fun _ => ?_) | refine Fork.sne (fun _ => ?_) (fun _ => ?_) | refine Fork.neg (fun _ => ?_) (fun _ => ?_) | refine Fork.mk (fun _ => ?_) (fun _ => ?_) | refine HAlt.mk ?_ ?_ | apply HJoin.mk3 | exact HEnd.mk rfl rfl rfl | refine HEnd.mk ?_ ?_ ?_ | refine Round.mk ?_ | refine NilQ.mk (fun b hb => ?_) | refine forceK_of ?_ | refine forceBx_of ?_ | refine unG_old ?_ | refine unG_gv ?_ | refine Lit.read rfl ?_ | refine LitO.own rfl ?_ | refine FinVal.keep ?_ | refine FinAgg.keep ?_ | refine Final.mk rfl rfl | refine Final.mk ?_ rfl | refine Final.mk ?_ ?_ | refine FinalT.mk ?_ ?_ | refine FinalI.mk ?_ | refine FinalC.allA ?_)
    | refine AV.bool_congr ?_ | refine AV.int_congr ?_ | refine AV.str_congr ?_ | refine AV.list_congr ?_ | with_reducible rfl | refine fr1 ?_ | refine fr2 ?_ ?_
  refine ⟨i + 1, by omega, ?_, by omega⟩
  repeat' first
    | exact trivial | refine Weak.mk ?_ ?_ ?_ ?_ (Or.inl (Nat.le_of_ble_eq_true rfl)) | refine Weak.mk ?_ ?_ ?_ ?_ (Or.inr ⟨(by repeat' first | exact trivial | exact Nat.le_of_ble_eq_true rfl | refine And.intro ?_ ?_), (by repeat' first | exact trivial | exact Nat.le_of_ble_eq_true rfl | refine And.intro ?_ ?_)⟩) | refine Weak.mk ?_ ?_ ?_ ?_ ?_ | refine And.intro ?_ ?_ | with_reducible rfl | exact Nat.le_of_ble_eq_true rfl | refine fr1 ?_ | refine fr2 ?_ ?_ | refine AV.int_congr ?_ | refine AV.bool_congr ?_ | refine AV.str_congr ?_ | refine AV.list_congr ?_ | refine AV.bsl_congr ?_ ?_ | (apply rfl)
  · rw [hKn]; exact w4
  · rw [wrap64 (by omega) (by omega)]; rfl
end Go.Proofs.Ytfnejdkkhpjhmaa
