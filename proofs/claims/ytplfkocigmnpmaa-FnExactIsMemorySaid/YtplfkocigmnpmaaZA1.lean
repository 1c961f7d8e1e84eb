/-
  What stands below some laws' proofs, part 1: contracts of functions, by an evaluator.
-/
import Derived.Test.YtplfkocigmnpmaaK5
import Derived.Laws.RangeAny
import Derived.Sort.Row
import Derived.Sort.Grow
import Derived.Shelf.Slices.CompactS
import Derived.Shelf.Sort.Plain
import Derived.Test.YtplfkocigmnpmaaProg
import Derived.Lib.SlicesCompact
import Derived.Sort.Statements
import Derived.Maps.Own
import Derived.Shelf.Strings.OnBuilder
import Derived.Test.YtplfkocigmnpmaaRows
import Derived.ProofKit
import Derived.Deep.Slices
namespace Go.Proofs.Ytplfkocigmnpmaa
open Abs
def eqChoice.code : ACode := (.seq (.region false [s 2 (.box (t 0)), s 3 (.box (t 1)), s 4 (.mv (.const (.bool false)))]) (.seq (.seq (.region false [s 5 (.fadr 0 (t 2)), s 6 (.load true 3 (t 5)), s 7 (.fadr 0 (t 3)), s 8 (.load true 3 (t 7)), s 9 (.call 82 [(t 6), (t 8)]), s 10 (.not (t 9))]) (.cond (t 10) (.seq (.region false [s 4 (.mv (.const (.bool false)))]) .ret) .skip)) (.seq (.seq (.region false [s 11 (.fadr 3 (t 2)), s 12 (.load false 1 (t 11)), s 13 (.fadr 3 (t 3)), s 14 (.load false 1 (t 13)), s 15 (.bin .neq (t 12) (t 14))]) (.cond (t 15) (.seq (.region false [s 4 (.mv (.const (.bool false)))]) .ret) .skip)) (.seq (.seq (.region false [s 16 (.fadr 4 (t 2)), s 17 (.load false 1 (t 16)), s 18 (.fadr 4 (t 3)), s 19 (.load false 1 (t 18)), s 20 (.call 34 [(t 17), (t 19)]), s 21 (.not (t 20))]) (.cond (t 21) (.seq (.region false [s 4 (.mv (.const (.bool false)))]) .ret) .skip)) (.seq (.seq (.region false [s 22 (.fadr 5 (t 2)), s 23 (.load false 1 (t 22)), s 24 (.fadr 5 (t 3)), s 25 (.load false 1 (t 24)), s 26 (.bin .neq (t 23) (t 25))]) (.cond (t 26) (.seq (.region false [s 4 (.mv (.const (.bool false)))]) .ret) .skip)) (.seq (.seq (.region false [s 27 (.fadr 6 (t 2)), s 28 (.load false 1 (t 27)), s 29 (.fadr 6 (t 3)), s 30 (.load false 1 (t 29)), s 31 (.bin .neq (t 28) (t 30))]) (.cond (t 31) (.seq (.region false [s 4 (.mv (.const (.bool false)))]) .ret) .skip)) (.seq (.region false [s 4 (.mv (.const (.bool true)))]) .ret)))))))
def eqChoice.keep : List Nat := [0, 1, 2, 3, 4]
def eqChoice.res : List RRes := [.tmp 4]
theorem eqChoice.of {mo : Bool} {args : List AV} {r : AV} {frs : Fr} (hn : Nat.ble args.length Try.f43.ntmps = true) (h : aCode (Kn mo Try.prog) eqChoice.keep 0 eqChoice.code (doneK eqChoice.res r frs) ⟨argEnv 0 args, [], []⟩) : Abs.Ret mo Try.prog 43 args r frs :=
  Abs.Ret.of_ir Try.func43 rfl (by kernel_rfl) (Nat.le_of_ble_eq_true hn) (by kernel_rfl) (by kernel_rfl) h
abbrev eqChoice.Ret (args : List AV) (r : AV) (frs : Fr) : Prop := Abs.Ret true Try.prog 43 args r frs
def eqFact.code : ACode := (.seq (.region false [s 2 (.box (t 0)), s 3 (.box (t 1)), s 4 (.mv (.const (.bool false)))]) (.seq (.seq (.region false [s 5 (.fadr 0 (t 2)), s 6 (.load false 1 (t 5)), s 7 (.fadr 0 (t 3)), s 8 (.load false 1 (t 7)), s 9 (.bin .neq (t 6) (t 8))]) (.cond (t 9) (.seq (.region false [s 4 (.mv (.const (.bool false)))]) .ret) .skip)) (.seq (.seq (.region false [s 10 (.fadr 1 (t 2)), s 11 (.load false 1 (t 10)), s 12 (.fadr 1 (t 3)), s 13 (.load false 1 (t 12)), s 14 (.call 71 [(t 11), (t 13)]), s 15 (.not (t 14))]) (.cond (t 15) (.seq (.region false [s 4 (.mv (.const (.bool false)))]) .ret) .skip)) (.seq (.region false [s 4 (.mv (.const (.bool true)))]) .ret))))
def eqFact.keep : List Nat := [0, 1, 2, 3, 4]
def eqFact.res : List RRes := [.tmp 4]
theorem eqFact.of {mo : Bool} {args : List AV} {r : AV} {frs : Fr} (hn : Nat.ble args.length Try.f29.ntmps = true) (h : aCode (Kn mo Try.prog) eqFact.keep 0 eqFact.code (doneK eqFact.res r frs) ⟨argEnv 0 args, [], []⟩) : Abs.Ret mo Try.prog 29 args r frs :=
  Abs.Ret.of_ir Try.func29 rfl (by kernel_rfl) (Nat.le_of_ble_eq_true hn) (by kernel_rfl) (by kernel_rfl) h
abbrev eqFact.Ret (args : List AV) (r : AV) (frs : Fr) : Prop := Abs.Ret true Try.prog 29 args r frs
def eqFactS.code : ACode := (.seq (.region false [s 4 (.mv (.const (.bool false)))]) (.seq (.seq (.region false [s 6 (.mv (t 0)), s 7 (.len false (t 6)), s 8 (.mv (t 1)), s 9 (.len false (t 8)), s 10 (.bin .neq (t 7) (t 9))]) (.cond (t 10) (.seq (.region false [s 4 (.mv (.const (.bool false)))]) .ret) .skip)) (.seq (.seq (.region false [s 5 (.mv (.const (.int .i64 0)))]) (.block 0 (.loop (.seq (.seq (.region false [s 11 (.mv (t 5)), s 12 (.mv (t 0)), s 13 (.len false (t 12)), s 14 (.bin .lss (t 11) (t 13))]) (.cond (t 14) .skip (.exit 0))) (.seq (.block 1 (.seq (.region true [s 17 (.mv (t 0)), s 18 (.mv (t 5)), s 19 (.iadr 2 (t 17) (t 18)), s 20 (.load true 2 (t 19)), s 21 (.mv (t 1)), s 22 (.mv (t 5)), s 23 (.iadr 2 (t 21) (t 22)), s 24 (.load true 2 (t 23)), s 25 (.call 29 [(t 20), (t 24)]), s 26 (.not (t 25))]) (.cond (t 26) (.seq (.region false [s 4 (.mv (.const (.bool false)))]) .ret) .skip))) (.region false [s 15 (.mv (t 5)), s 16 (.bin .add (t 15) (.const (.int .i64 1))), s 5 (.mv (t 16))])))))) (.seq (.region false [s 4 (.mv (.const (.bool true)))]) .ret))))
def eqFactS.keep : List Nat := [0, 1, 4, 5]
def eqFactS.res : List RRes := [.tmp 4]
theorem eqFactS.of {mo : Bool} {args : List AV} {r : AV} {frs : Fr} (hn : Nat.ble args.length Try.f18.ntmps = true) (h : aCode (Kn mo Try.prog) eqFactS.keep 0 eqFactS.code (doneK eqFactS.res r frs) ⟨argEnv 0 args, [], []⟩) : Abs.Ret mo Try.prog 18 args r frs :=
  Abs.Ret.of_ir Try.func18 rfl (by kernel_rfl) (Nat.le_of_ble_eq_true hn) (by kernel_rfl) (by kernel_rfl) h
abbrev eqFactS.Ret (args : List AV) (r : AV) (frs : Fr) : Prop := Abs.Ret true Try.prog 18 args r frs
def eqFiring.code : ACode := (.seq (.region false [s 2 (.box (t 0)), s 3 (.box (t 1)), s 4 (.mv (.const (.bool false)))]) (.seq (.seq (.region false [s 5 (.fadr 0 (t 2)), s 6 (.load false 1 (t 5)), s 7 (.fadr 0 (t 3)), s 8 (.load false 1 (t 7)), s 9 (.bin .neq (t 6) (t 8))]) (.cond (t 9) (.seq (.region false [s 4 (.mv (.const (.bool false)))]) .ret) .skip)) (.seq (.seq (.region false [s 10 (.fadr 1 (t 2)), s 11 (.load false 1 (t 10)), s 12 (.fadr 1 (t 3)), s 13 (.load false 1 (t 12)), s 14 (.call 34 [(t 11), (t 13)]), s 15 (.not (t 14))]) (.cond (t 15) (.seq (.region false [s 4 (.mv (.const (.bool false)))]) .ret) .skip)) (.seq (.region false [s 4 (.mv (.const (.bool true)))]) .ret))))
def eqFiring.keep : List Nat := [0, 1, 2, 3, 4]
def eqFiring.res : List RRes := [.tmp 4]
theorem eqFiring.of {mo : Bool} {args : List AV} {r : AV} {frs : Fr} (hn : Nat.ble args.length Try.f89.ntmps = true) (h : aCode (Kn mo Try.prog) eqFiring.keep 0 eqFiring.code (doneK eqFiring.res r frs) ⟨argEnv 0 args, [], []⟩) : Abs.Ret mo Try.prog 89 args r frs :=
  Abs.Ret.of_ir Try.func89 rfl (by kernel_rfl) (Nat.le_of_ble_eq_true hn) (by kernel_rfl) (by kernel_rfl) h
abbrev eqFiring.Ret (args : List AV) (r : AV) (frs : Fr) : Prop := Abs.Ret true Try.prog 89 args r frs
def eqFiringS.code : ACode := (.seq (.region false [s 4 (.mv (.const (.bool false)))]) (.seq (.seq (.region false [s 6 (.mv (t 0)), s 7 (.len false (t 6)), s 8 (.mv (t 1)), s 9 (.len false (t 8)), s 10 (.bin .neq (t 7) (t 9))]) (.cond (t 10) (.seq (.region false [s 4 (.mv (.const (.bool false)))]) .ret) .skip)) (.seq (.seq (.region false [s 5 (.mv (.const (.int .i64 0)))]) (.block 0 (.loop (.seq (.seq (.region false [s 11 (.mv (t 5)), s 12 (.mv (t 0)), s 13 (.len false (t 12)), s 14 (.bin .lss (t 11) (t 13))]) (.cond (t 14) .skip (.exit 0))) (.seq (.block 1 (.seq (.region true [s 17 (.mv (t 0)), s 18 (.mv (t 5)), s 19 (.iadr 2 (t 17) (t 18)), s 20 (.load true 2 (t 19)), s 21 (.mv (t 1)), s 22 (.mv (t 5)), s 23 (.iadr 2 (t 21) (t 22)), s 24 (.load true 2 (t 23)), s 25 (.call 89 [(t 20), (t 24)]), s 26 (.not (t 25))]) (.cond (t 26) (.seq (.region false [s 4 (.mv (.const (.bool false)))]) .ret) .skip))) (.region false [s 15 (.mv (t 5)), s 16 (.bin .add (t 15) (.const (.int .i64 1))), s 5 (.mv (t 16))])))))) (.seq (.region false [s 4 (.mv (.const (.bool true)))]) .ret))))
def eqFiringS.keep : List Nat := [0, 1, 4, 5]
def eqFiringS.res : List RRes := [.tmp 4]
theorem eqFiringS.of {mo : Bool} {args : List AV} {r : AV} {frs : Fr} (hn : Nat.ble args.length Try.f48.ntmps = true) (h : aCode (Kn mo Try.prog) eqFiringS.keep 0 eqFiringS.code (doneK eqFiringS.res r frs) ⟨argEnv 0 args, [], []⟩) : Abs.Ret mo Try.prog 48 args r frs :=
  Abs.Ret.of_ir Try.func48 rfl (by kernel_rfl) (Nat.le_of_ble_eq_true hn) (by kernel_rfl) (by kernel_rfl) h
abbrev eqFiringS.Ret (args : List AV) (r : AV) (frs : Fr) : Prop := Abs.Ret true Try.prog 48 args r frs
def eqIntS.code : ACode := (.seq (.region false [s 4 (.mv (.const (.bool false)))]) (.seq (.seq (.region false [s 6 (.mv (t 0)), s 7 (.len false (t 6)), s 8 (.mv (t 1)), s 9 (.len false (t 8)), s 10 (.bin .neq (t 7) (t 9))]) (.cond (t 10) (.seq (.region false [s 4 (.mv (.const (.bool false)))]) .ret) .skip)) (.seq (.seq (.region false [s 5 (.mv (.const (.int .i64 0)))]) (.block 0 (.loop (.seq (.seq (.region false [s 11 (.mv (t 5)), s 12 (.mv (t 0)), s 13 (.len false (t 12)), s 14 (.bin .lss (t 11) (t 13))]) (.cond (t 14) .skip (.exit 0))) (.seq (.block 1 (.seq (.region true [s 17 (.mv (t 0)), s 18 (.mv (t 5)), s 19 (.iadr 1 (t 17) (t 18)), s 20 (.load false 1 (t 19)), s 21 (.mv (t 1)), s 22 (.mv (t 5)), s 23 (.iadr 1 (t 21) (t 22)), s 24 (.load false 1 (t 23)), s 25 (.bin .neq (t 20) (t 24))]) (.cond (t 25) (.seq (.region false [s 4 (.mv (.const (.bool false)))]) .ret) .skip))) (.region false [s 15 (.mv (t 5)), s 16 (.bin .add (t 15) (.const (.int .i64 1))), s 5 (.mv (t 16))])))))) (.seq (.region false [s 4 (.mv (.const (.bool true)))]) .ret))))
def eqIntS.keep : List Nat := [0, 1, 4, 5]
def eqIntS.res : List RRes := [.tmp 4]
theorem eqIntS.of {mo : Bool} {args : List AV} {r : AV} {frs : Fr} (hn : Nat.ble args.length Try.f34.ntmps = true) (h : aCode (Kn mo Try.prog) eqIntS.keep 0 eqIntS.code (doneK eqIntS.res r frs) ⟨argEnv 0 args, [], []⟩) : Abs.Ret mo Try.prog 34 args r frs :=
  Abs.Ret.of_ir Try.func34 rfl (by kernel_rfl) (Nat.le_of_ble_eq_true hn) (by kernel_rfl) (by kernel_rfl) h
abbrev eqIntS.Ret (args : List AV) (r : AV) (frs : Fr) : Prop := Abs.Ret true Try.prog 34 args r frs
def eqMatch.code : ACode := (.seq (.region false [s 2 (.box (t 0)), s 3 (.box (t 1)), s 4 (.mv (.const (.bool false)))]) (.seq (.seq (.region false [s 5 (.fadr 0 (t 2)), s 6 (.load false 1 (t 5)), s 7 (.fadr 0 (t 3)), s 8 (.load false 1 (t 7)), s 9 (.bin .neq (t 6) (t 8))]) (.cond (t 9) (.seq (.region false [s 4 (.mv (.const (.bool false)))]) .ret) .skip)) (.seq (.seq (.region false [s 10 (.fadr 1 (t 2)), s 11 (.load false 1 (t 10)), s 12 (.fadr 1 (t 3)), s 13 (.load false 1 (t 12)), s 14 (.call 18 [(t 11), (t 13)]), s 15 (.not (t 14))]) (.cond (t 15) (.seq (.region false [s 4 (.mv (.const (.bool false)))]) .ret) .skip)) (.seq (.seq (.region false [s 16 (.fadr 2 (t 2)), s 17 (.load false 1 (t 16)), s 18 (.fadr 2 (t 3)), s 19 (.load false 1 (t 18)), s 20 (.call 106 [(t 17), (t 19)]), s 21 (.not (t 20))]) (.cond (t 21) (.seq (.region false [s 4 (.mv (.const (.bool false)))]) .ret) .skip)) (.seq (.region false [s 4 (.mv (.const (.bool true)))]) .ret)))))
def eqMatch.keep : List Nat := [0, 1, 2, 3, 4]
def eqMatch.res : List RRes := [.tmp 4]
theorem eqMatch.of {mo : Bool} {args : List AV} {r : AV} {frs : Fr} (hn : Nat.ble args.length Try.f82.ntmps = true) (h : aCode (Kn mo Try.prog) eqMatch.keep 0 eqMatch.code (doneK eqMatch.res r frs) ⟨argEnv 0 args, [], []⟩) : Abs.Ret mo Try.prog 82 args r frs :=
  Abs.Ret.of_ir Try.func82 rfl (by kernel_rfl) (Nat.le_of_ble_eq_true hn) (by kernel_rfl) (by kernel_rfl) h
abbrev eqMatch.Ret (args : List AV) (r : AV) (frs : Fr) : Prop := Abs.Ret true Try.prog 82 args r frs
def eqPair.code : ACode := (.seq (.region false [s 2 (.box (t 0)), s 3 (.box (t 1)), s 4 (.mv (.const (.bool false)))]) (.seq (.seq (.region false [s 5 (.fadr 0 (t 2)), s 6 (.load false 1 (t 5)), s 7 (.fadr 0 (t 3)), s 8 (.load false 1 (t 7)), s 9 (.bin .neq (t 6) (t 8))]) (.cond (t 9) (.seq (.region false [s 4 (.mv (.const (.bool false)))]) .ret) .skip)) (.seq (.seq (.region false [s 10 (.fadr 1 (t 2)), s 11 (.load false 1 (t 10)), s 12 (.fadr 1 (t 3)), s 13 (.load false 1 (t 12)), s 14 (.bin .neq (t 11) (t 13))]) (.cond (t 14) (.seq (.region false [s 4 (.mv (.const (.bool false)))]) .ret) .skip)) (.seq (.region false [s 4 (.mv (.const (.bool true)))]) .ret))))
def eqPair.keep : List Nat := [0, 1, 2, 3, 4]
def eqPair.res : List RRes := [.tmp 4]
theorem eqPair.of {mo : Bool} {args : List AV} {r : AV} {frs : Fr} (hn : Nat.ble args.length Try.f129.ntmps = true) (h : aCode (Kn mo Try.prog) eqPair.keep 0 eqPair.code (doneK eqPair.res r frs) ⟨argEnv 0 args, [], []⟩) : Abs.Ret mo Try.prog 129 args r frs :=
  Abs.Ret.of_ir Try.func129 rfl (by kernel_rfl) (Nat.le_of_ble_eq_true hn) (by kernel_rfl) (by kernel_rfl) h
abbrev eqPair.Ret (args : List AV) (r : AV) (frs : Fr) : Prop := Abs.Ret true Try.prog 129 args r frs
def eqPairS.code : ACode := (.seq (.region false [s 4 (.mv (.const (.bool false)))]) (.seq (.seq (.region false [s 6 (.mv (t 0)), s 7 (.len false (t 6)), s 8 (.mv (t 1)), s 9 (.len false (t 8)), s 10 (.bin .neq (t 7) (t 9))]) (.cond (t 10) (.seq (.region false [s 4 (.mv (.const (.bool false)))]) .ret) .skip)) (.seq (.seq (.region false [s 5 (.mv (.const (.int .i64 0)))]) (.block 0 (.loop (.seq (.seq (.region false [s 11 (.mv (t 5)), s 12 (.mv (t 0)), s 13 (.len false (t 12)), s 14 (.bin .lss (t 11) (t 13))]) (.cond (t 14) .skip (.exit 0))) (.seq (.block 1 (.seq (.region true [s 17 (.mv (t 0)), s 18 (.mv (t 5)), s 19 (.iadr 2 (t 17) (t 18)), s 20 (.load true 2 (t 19)), s 21 (.mv (t 1)), s 22 (.mv (t 5)), s 23 (.iadr 2 (t 21) (t 22)), s 24 (.load true 2 (t 23)), s 25 (.call 129 [(t 20), (t 24)]), s 26 (.not (t 25))]) (.cond (t 26) (.seq (.region false [s 4 (.mv (.const (.bool false)))]) .ret) .skip))) (.region false [s 15 (.mv (t 5)), s 16 (.bin .add (t 15) (.const (.int .i64 1))), s 5 (.mv (t 16))])))))) (.seq (.region false [s 4 (.mv (.const (.bool true)))]) .ret))))
def eqPairS.keep : List Nat := [0, 1, 4, 5]
def eqPairS.res : List RRes := [.tmp 4]
theorem eqPairS.of {mo : Bool} {args : List AV} {r : AV} {frs : Fr} (hn : Nat.ble args.length Try.f106.ntmps = true) (h : aCode (Kn mo Try.prog) eqPairS.keep 0 eqPairS.code (doneK eqPairS.res r frs) ⟨argEnv 0 args, [], []⟩) : Abs.Ret mo Try.prog 106 args r frs :=
  Abs.Ret.of_ir Try.func106 rfl (by kernel_rfl) (Nat.le_of_ble_eq_true hn) (by kernel_rfl) (by kernel_rfl) h
abbrev eqPairS.Ret (args : List AV) (r : AV) (frs : Fr) : Prop := Abs.Ret true Try.prog 106 args r frs
def eqStamp.code : ACode := (.seq (.region false [s 2 (.box (t 0)), s 3 (.box (t 1)), s 4 (.mv (.const (.bool false)))]) (.seq (.seq (.region false [s 5 (.fadr 0 (t 2)), s 6 (.load true 2 (t 5)), s 7 (.fadr 0 (t 3)), s 8 (.load true 2 (t 7)), s 9 (.call 29 [(t 6), (t 8)]), s 10 (.not (t 9))]) (.cond (t 10) (.seq (.region false [s 4 (.mv (.const (.bool false)))]) .ret) .skip)) (.seq (.seq (.region false [s 11 (.fadr 2 (t 2)), s 12 (.load false 1 (t 11)), s 13 (.fadr 2 (t 3)), s 14 (.load false 1 (t 13)), s 15 (.bin .neq (t 12) (t 14))]) (.cond (t 15) (.seq (.region false [s 4 (.mv (.const (.bool false)))]) .ret) .skip)) (.seq (.region false [s 4 (.mv (.const (.bool true)))]) .ret))))
def eqStamp.keep : List Nat := [0, 1, 2, 3, 4]
def eqStamp.res : List RRes := [.tmp 4]
theorem eqStamp.of {mo : Bool} {args : List AV} {r : AV} {frs : Fr} (hn : Nat.ble args.length Try.f60.ntmps = true) (h : aCode (Kn mo Try.prog) eqStamp.keep 0 eqStamp.code (doneK eqStamp.res r frs) ⟨argEnv 0 args, [], []⟩) : Abs.Ret mo Try.prog 60 args r frs :=
  Abs.Ret.of_ir Try.func60 rfl (by kernel_rfl) (Nat.le_of_ble_eq_true hn) (by kernel_rfl) (by kernel_rfl) h
abbrev eqStamp.Ret (args : List AV) (r : AV) (frs : Fr) : Prop := Abs.Ret true Try.prog 60 args r frs
def eqStampS.code : ACode := (.seq (.region false [s 4 (.mv (.const (.bool false)))]) (.seq (.seq (.region false [s 6 (.mv (t 0)), s 7 (.len false (t 6)), s 8 (.mv (t 1)), s 9 (.len false (t 8)), s 10 (.bin .neq (t 7) (t 9))]) (.cond (t 10) (.seq (.region false [s 4 (.mv (.const (.bool false)))]) .ret) .skip)) (.seq (.seq (.region false [s 5 (.mv (.const (.int .i64 0)))]) (.block 0 (.loop (.seq (.seq (.region false [s 11 (.mv (t 5)), s 12 (.mv (t 0)), s 13 (.len false (t 12)), s 14 (.bin .lss (t 11) (t 13))]) (.cond (t 14) .skip (.exit 0))) (.seq (.block 1 (.seq (.region true [s 17 (.mv (t 0)), s 18 (.mv (t 5)), s 19 (.iadr 3 (t 17) (t 18)), s 20 (.load true 3 (t 19)), s 21 (.mv (t 1)), s 22 (.mv (t 5)), s 23 (.iadr 3 (t 21) (t 22)), s 24 (.load true 3 (t 23)), s 25 (.call 60 [(t 20), (t 24)]), s 26 (.not (t 25))]) (.cond (t 26) (.seq (.region false [s 4 (.mv (.const (.bool false)))]) .ret) .skip))) (.region false [s 15 (.mv (t 5)), s 16 (.bin .add (t 15) (.const (.int .i64 1))), s 5 (.mv (t 16))])))))) (.seq (.region false [s 4 (.mv (.const (.bool true)))]) .ret))))
def eqStampS.keep : List Nat := [0, 1, 4, 5]
def eqStampS.res : List RRes := [.tmp 4]
theorem eqStampS.of {mo : Bool} {args : List AV} {r : AV} {frs : Fr} (hn : Nat.ble args.length Try.f19.ntmps = true) (h : aCode (Kn mo Try.prog) eqStampS.keep 0 eqStampS.code (doneK eqStampS.res r frs) ⟨argEnv 0 args, [], []⟩) : Abs.Ret mo Try.prog 19 args r frs :=
  Abs.Ret.of_ir Try.func19 rfl (by kernel_rfl) (Nat.le_of_ble_eq_true hn) (by kernel_rfl) (by kernel_rfl) h
abbrev eqStampS.Ret (args : List AV) (r : AV) (frs : Fr) : Prop := Abs.Ret true Try.prog 19 args r frs
def eqStringS.code : ACode := (.seq (.region false [s 4 (.mv (.const (.bool false)))]) (.seq (.seq (.region false [s 6 (.mv (t 0)), s 7 (.len false (t 6)), s 8 (.mv (t 1)), s 9 (.len false (t 8)), s 10 (.bin .neq (t 7) (t 9))]) (.cond (t 10) (.seq (.region false [s 4 (.mv (.const (.bool false)))]) .ret) .skip)) (.seq (.seq (.region false [s 5 (.mv (.const (.int .i64 0)))]) (.block 0 (.loop (.seq (.seq (.region false [s 11 (.mv (t 5)), s 12 (.mv (t 0)), s 13 (.len false (t 12)), s 14 (.bin .lss (t 11) (t 13))]) (.cond (t 14) .skip (.exit 0))) (.seq (.block 1 (.seq (.region true [s 17 (.mv (t 0)), s 18 (.mv (t 5)), s 19 (.iadr 1 (t 17) (t 18)), s 20 (.load false 1 (t 19)), s 21 (.mv (t 1)), s 22 (.mv (t 5)), s 23 (.iadr 1 (t 21) (t 22)), s 24 (.load false 1 (t 23)), s 25 (.bin .neq (t 20) (t 24))]) (.cond (t 25) (.seq (.region false [s 4 (.mv (.const (.bool false)))]) .ret) .skip))) (.region false [s 15 (.mv (t 5)), s 16 (.bin .add (t 15) (.const (.int .i64 1))), s 5 (.mv (t 16))])))))) (.seq (.region false [s 4 (.mv (.const (.bool true)))]) .ret))))
def eqStringS.keep : List Nat := [0, 1, 4, 5]
def eqStringS.res : List RRes := [.tmp 4]
theorem eqStringS.of {mo : Bool} {args : List AV} {r : AV} {frs : Fr} (hn : Nat.ble args.length Try.f71.ntmps = true) (h : aCode (Kn mo Try.prog) eqStringS.keep 0 eqStringS.code (doneK eqStringS.res r frs) ⟨argEnv 0 args, [], []⟩) : Abs.Ret mo Try.prog 71 args r frs :=
  Abs.Ret.of_ir Try.func71 rfl (by kernel_rfl) (Nat.le_of_ble_eq_true hn) (by kernel_rfl) (by kernel_rfl) h
abbrev eqStringS.Ret (args : List AV) (r : AV) (frs : Fr) : Prop := Abs.Ret true Try.prog 71 args r frs
def heldFactS.code : ACode := (.seq (.region false [s 4 (.mv (.const (.int .i64 0)))]) (.seq (.seq (.region false [s 5 (.mv (.const (.int .i64 0)))]) (.block 0 (.loop (.seq (.seq (.region false [s 6 (.mv (t 5)), s 7 (.mv (t 0)), s 8 (.len false (t 7)), s 9 (.bin .lss (t 6) (t 8))]) (.cond (t 9) .skip (.exit 0))) (.seq (.block 1 (.seq (.seq (.region true [s 12 (.mv (t 0)), s 13 (.mv (t 5)), s 14 (.iadr 2 (t 12) (t 13)), s 15 (.fadr 0 (t 14)), s 16 (.load false 1 (t 15)), s 17 (.mv (t 1)), s 18 (.call 61 [(t 17)]), s 19 (.bin .neq (t 16) (t 18))]) (.cond (t 19) (.seq (.region false [s 4 (.mv (.const (.int .i64 (-1))))]) .ret) .skip)) (.seq (.region false [s 20 (.mv (t 1)), s 21 (.bin .add (t 20) (.const (.int .i64 1))), s 1 (.mv (t 21))]) (.seq (.region false [s 22 (.mv (t 0)), s 23 (.mv (t 5)), s 24 (.iadr 2 (t 22) (t 23)), s 25 (.fadr 1 (t 24)), s 26 (.load false 1 (t 25)), s 27 (.mv (t 1)), s 28 (.call 63 [(t 26), (t 27)]), s 1 (.mv (t 28))]) (.seq (.region false [s 29 (.mv (t 1)), s 30 (.bin .lss (t 29) (.const (.int .i64 0)))]) (.cond (t 30) (.seq (.region false [s 4 (.mv (.const (.int .i64 (-1))))]) .ret) .skip)))))) (.region false [s 10 (.mv (t 5)), s 11 (.bin .add (t 10) (.const (.int .i64 1))), s 5 (.mv (t 11))])))))) (.seq (.region false [s 31 (.mv (t 1)), s 4 (.mv (t 31))]) .ret)))
def heldFactS.keep : List Nat := [0, 1, 4, 5]
def heldFactS.res : List RRes := [.tmp 4]
theorem heldFactS.ofS {mo : Bool} {args : List AV} {r : AV} (hr : isScalR r = true) (hn : Nat.ble args.length Try.f22.ntmps = true) (h : aCode (Kn mo Try.prog) heldFactS.keep 0 heldFactS.code (doneS heldFactS.res r) ⟨argEnv 0 args, [], []⟩) : Abs.Ret mo Try.prog 22 args r [] :=
  Abs.Ret.of_irS hr Try.func22 rfl (by kernel_rfl) (Nat.le_of_ble_eq_true hn) (by kernel_rfl) (by kernel_rfl) h
abbrev heldFactS.Ret (args : List AV) (r : AV) (frs : Fr) : Prop := Abs.Ret true Try.prog 22 args r frs
def heldIntS.code : ACode := (.seq (.region false [s 4 (.mv (.const (.int .i64 0)))]) (.seq (.seq (.region false [s 5 (.mv (.const (.int .i64 0)))]) (.block 0 (.loop (.seq (.seq (.region false [s 6 (.mv (t 5)), s 7 (.mv (t 0)), s 8 (.len false (t 7)), s 9 (.bin .lss (t 6) (t 8))]) (.cond (t 9) .skip (.exit 0))) (.seq (.block 1 (.seq (.seq (.region false [s 12 (.mv (t 0)), s 13 (.mv (t 5)), s 14 (.iadr 1 (t 12) (t 13)), s 15 (.load false 1 (t 14)), s 16 (.mv (t 1)), s 17 (.bin .neq (t 15) (t 16))]) (.cond (t 17) (.seq (.region false [s 4 (.mv (.const (.int .i64 (-1))))]) .ret) .skip)) (.region false [s 18 (.mv (t 1)), s 19 (.bin .add (t 18) (.const (.int .i64 1))), s 1 (.mv (t 19))]))) (.region false [s 10 (.mv (t 5)), s 11 (.bin .add (t 10) (.const (.int .i64 1))), s 5 (.mv (t 11))])))))) (.seq (.region false [s 20 (.mv (t 1)), s 4 (.mv (t 20))]) .ret)))
def heldIntS.keep : List Nat := [0, 1, 4, 5]
def heldIntS.res : List RRes := [.tmp 4]
theorem heldIntS.ofS {mo : Bool} {args : List AV} {r : AV} (hr : isScalR r = true) (hn : Nat.ble args.length Try.f36.ntmps = true) (h : aCode (Kn mo Try.prog) heldIntS.keep 0 heldIntS.code (doneS heldIntS.res r) ⟨argEnv 0 args, [], []⟩) : Abs.Ret mo Try.prog 36 args r [] :=
  Abs.Ret.of_irS hr Try.func36 rfl (by kernel_rfl) (Nat.le_of_ble_eq_true hn) (by kernel_rfl) (by kernel_rfl) h
abbrev heldIntS.Ret (args : List AV) (r : AV) (frs : Fr) : Prop := Abs.Ret true Try.prog 36 args r frs
def heldStringS.code : ACode := (.seq (.region false [s 4 (.mv (.const (.int .i64 0)))]) (.seq (.seq (.region false [s 5 (.mv (.const (.int .i64 0)))]) (.block 0 (.loop (.seq (.seq (.region false [s 6 (.mv (t 5)), s 7 (.mv (t 0)), s 8 (.len false (t 7)), s 9 (.bin .lss (t 6) (t 8))]) (.cond (t 9) .skip (.exit 0))) (.seq (.block 1 (.seq (.seq (.region true [s 12 (.mv (t 0)), s 13 (.mv (t 5)), s 14 (.iadr 1 (t 12) (t 13)), s 15 (.load false 1 (t 14)), s 16 (.mv (t 1)), s 17 (.call 61 [(t 16)]), s 18 (.bin .neq (t 15) (t 17))]) (.cond (t 18) (.seq (.region false [s 4 (.mv (.const (.int .i64 (-1))))]) .ret) .skip)) (.region false [s 19 (.mv (t 1)), s 20 (.bin .add (t 19) (.const (.int .i64 1))), s 1 (.mv (t 20))]))) (.region false [s 10 (.mv (t 5)), s 11 (.bin .add (t 10) (.const (.int .i64 1))), s 5 (.mv (t 11))])))))) (.seq (.region false [s 21 (.mv (t 1)), s 4 (.mv (t 21))]) .ret)))
def heldStringS.keep : List Nat := [0, 1, 4, 5]
def heldStringS.res : List RRes := [.tmp 4]
theorem heldStringS.ofS {mo : Bool} {args : List AV} {r : AV} (hr : isScalR r = true) (hn : Nat.ble args.length Try.f63.ntmps = true) (h : aCode (Kn mo Try.prog) heldStringS.keep 0 heldStringS.code (doneS heldStringS.res r) ⟨argEnv 0 args, [], []⟩) : Abs.Ret mo Try.prog 63 args r [] :=
  Abs.Ret.of_irS hr Try.func63 rfl (by kernel_rfl) (Nat.le_of_ble_eq_true hn) (by kernel_rfl) (by kernel_rfl) h
abbrev heldStringS.Ret (args : List AV) (r : AV) (frs : Fr) : Prop := Abs.Ret true Try.prog 63 args r frs
def markFactS.code : ACode := (.seq (.region false [s 4 (.mv (.const (.int .i64 0)))]) (.seq (.seq (.region false [s 5 (.mv (.const (.int .i64 0)))]) (.block 0 (.loop (.seq (.seq (.region false [s 6 (.mv (t 5)), s 7 (.mv (t 0)), s 8 (.len false (t 7)), s 9 (.bin .lss (t 6) (t 8))]) (.cond (t 9) .skip (.exit 0))) (.seq (.block 1 (.seq (.region false [s 12 (.mv (t 0)), s 13 (.mv (t 5)), s 14 (.mv (t 1)), s 15 (.call 61 [(t 14)]), s 16 (.iadr 2 (t 12) (t 13)), s 17 (.fadr 0 (t 16)), ⟨none, none, (.store 1 (t 17) (t 15))⟩]) (.seq (.region false [s 18 (.mv (t 1)), s 19 (.bin .add (t 18) (.const (.int .i64 1))), s 1 (.mv (t 19))]) (.region false [s 20 (.mv (t 0)), s 21 (.mv (t 5)), s 22 (.iadr 2 (t 20) (t 21)), s 23 (.fadr 1 (t 22)), s 24 (.load false 1 (t 23)), s 25 (.mv (t 1)), s 26 (.call 62 [(t 24), (t 25)]), s 1 (.mv (t 26))])))) (.region false [s 10 (.mv (t 5)), s 11 (.bin .add (t 10) (.const (.int .i64 1))), s 5 (.mv (t 11))])))))) (.seq (.region false [s 27 (.mv (t 1)), s 4 (.mv (t 27))]) .ret)))
def markFactS.keep : List Nat := [0, 1, 4, 5]
def markFactS.res : List RRes := [.tmp 4]
theorem markFactS.ofT {mo : Bool} {b0 : List ABox} {x' : Tr} {args : List AV} {r : AV} (hr : isScalR r = true) (hn : Nat.ble args.length Try.f21.ntmps = true) (hx : nb x' = b0.length) (h : aCode (Kn mo Try.prog) markFactS.keep b0.length markFactS.code (doneT markFactS.res b0.length r (gb x' 0)) ⟨argEnv 0 args, b0, []⟩) : Abs.Turn mo Try.prog 21 b0 args r (gb x' 0) :=
  Abs.Turn.of_ir hr Try.func21 rfl (by kernel_rfl) (Nat.le_of_ble_eq_true hn) (by kernel_rfl) (by kernel_rfl) hx h
abbrev markFactS.Turn (b0 : List ABox) (args : List AV) (r : AV) (b1 : List ABox) : Prop := Abs.Turn true Try.prog 21 b0 args r b1
def markIntS.code : ACode := (.seq (.region false [s 4 (.mv (.const (.int .i64 0)))]) (.seq (.seq (.region false [s 5 (.mv (.const (.int .i64 0)))]) (.block 0 (.loop (.seq (.seq (.region false [s 6 (.mv (t 5)), s 7 (.mv (t 0)), s 8 (.len false (t 7)), s 9 (.bin .lss (t 6) (t 8))]) (.cond (t 9) .skip (.exit 0))) (.seq (.block 1 (.seq (.region false [s 12 (.mv (t 0)), s 13 (.mv (t 5)), s 14 (.mv (t 1)), s 15 (.iadr 1 (t 12) (t 13)), ⟨none, none, (.store 1 (t 15) (t 14))⟩]) (.region false [s 16 (.mv (t 1)), s 17 (.bin .add (t 16) (.const (.int .i64 1))), s 1 (.mv (t 17))]))) (.region false [s 10 (.mv (t 5)), s 11 (.bin .add (t 10) (.const (.int .i64 1))), s 5 (.mv (t 11))])))))) (.seq (.region false [s 18 (.mv (t 1)), s 4 (.mv (t 18))]) .ret)))
def markIntS.keep : List Nat := [0, 1, 4, 5]
def markIntS.res : List RRes := [.tmp 4]
theorem markIntS.ofT {mo : Bool} {b0 : List ABox} {x' : Tr} {args : List AV} {r : AV} (hr : isScalR r = true) (hn : Nat.ble args.length Try.f35.ntmps = true) (hx : nb x' = b0.length) (h : aCode (Kn mo Try.prog) markIntS.keep b0.length markIntS.code (doneT markIntS.res b0.length r (gb x' 0)) ⟨argEnv 0 args, b0, []⟩) : Abs.Turn mo Try.prog 35 b0 args r (gb x' 0) :=
  Abs.Turn.of_ir hr Try.func35 rfl (by kernel_rfl) (Nat.le_of_ble_eq_true hn) (by kernel_rfl) (by kernel_rfl) hx h
abbrev markIntS.Turn (b0 : List ABox) (args : List AV) (r : AV) (b1 : List ABox) : Prop := Abs.Turn true Try.prog 35 b0 args r b1
def markStampS.code : ACode := (.seq (.region false [s 4 (.mv (.const (.int .i64 0)))]) (.seq (.seq (.region false [s 5 (.mv (.const (.int .i64 0)))]) (.block 0 (.loop (.seq (.seq (.region false [s 6 (.mv (t 5)), s 7 (.mv (t 0)), s 8 (.len false (t 7)), s 9 (.bin .lss (t 6) (t 8))]) (.cond (t 9) .skip (.exit 0))) (.seq (.block 1 (.seq (.region false [s 12 (.mv (t 0)), s 13 (.mv (t 5)), s 14 (.mv (t 1)), s 15 (.call 61 [(t 14)]), s 16 (.iadr 3 (t 12) (t 13)), s 17 (.fadr 0 (t 16)), s 18 (.fadr 0 (t 17)), ⟨none, none, (.store 1 (t 18) (t 15))⟩]) (.seq (.region false [s 19 (.mv (t 1)), s 20 (.bin .add (t 19) (.const (.int .i64 1))), s 1 (.mv (t 20))]) (.seq (.region false [s 21 (.mv (t 0)), s 22 (.mv (t 5)), s 23 (.iadr 3 (t 21) (t 22)), s 24 (.fadr 0 (t 23)), s 25 (.fadr 1 (t 24)), s 26 (.load false 1 (t 25)), s 27 (.mv (t 1)), s 28 (.call 62 [(t 26), (t 27)]), s 1 (.mv (t 28))]) (.seq (.region false [s 29 (.mv (t 0)), s 30 (.mv (t 5)), s 31 (.mv (t 1)), s 32 (.iadr 3 (t 29) (t 30)), s 33 (.fadr 2 (t 32)), ⟨none, none, (.store 1 (t 33) (t 31))⟩]) (.region false [s 34 (.mv (t 1)), s 35 (.bin .add (t 34) (.const (.int .i64 1))), s 1 (.mv (t 35))])))))) (.region false [s 10 (.mv (t 5)), s 11 (.bin .add (t 10) (.const (.int .i64 1))), s 5 (.mv (t 11))])))))) (.seq (.region false [s 36 (.mv (t 1)), s 4 (.mv (t 36))]) .ret)))
def markStampS.keep : List Nat := [0, 1, 4, 5]
def markStampS.res : List RRes := [.tmp 4]
theorem markStampS.ofT {mo : Bool} {b0 : List ABox} {x' : Tr} {args : List AV} {r : AV} (hr : isScalR r = true) (hn : Nat.ble args.length Try.f20.ntmps = true) (hx : nb x' = b0.length) (h : aCode (Kn mo Try.prog) markStampS.keep b0.length markStampS.code (doneT markStampS.res b0.length r (gb x' 0)) ⟨argEnv 0 args, b0, []⟩) : Abs.Turn mo Try.prog 20 b0 args r (gb x' 0) :=
  Abs.Turn.of_ir hr Try.func20 rfl (by kernel_rfl) (Nat.le_of_ble_eq_true hn) (by kernel_rfl) (by kernel_rfl) hx h
abbrev markStampS.Turn (b0 : List ABox) (args : List AV) (r : AV) (b1 : List ABox) : Prop := Abs.Turn true Try.prog 20 b0 args r b1
def markStringS.code : ACode := (.seq (.region false [s 4 (.mv (.const (.int .i64 0)))]) (.seq (.seq (.region false [s 5 (.mv (.const (.int .i64 0)))]) (.block 0 (.loop (.seq (.seq (.region false [s 6 (.mv (t 5)), s 7 (.mv (t 0)), s 8 (.len false (t 7)), s 9 (.bin .lss (t 6) (t 8))]) (.cond (t 9) .skip (.exit 0))) (.seq (.block 1 (.seq (.region false [s 12 (.mv (t 0)), s 13 (.mv (t 5)), s 14 (.mv (t 1)), s 15 (.call 61 [(t 14)]), s 16 (.iadr 1 (t 12) (t 13)), ⟨none, none, (.store 1 (t 16) (t 15))⟩]) (.region false [s 17 (.mv (t 1)), s 18 (.bin .add (t 17) (.const (.int .i64 1))), s 1 (.mv (t 18))]))) (.region false [s 10 (.mv (t 5)), s 11 (.bin .add (t 10) (.const (.int .i64 1))), s 5 (.mv (t 11))])))))) (.seq (.region false [s 19 (.mv (t 1)), s 4 (.mv (t 19))]) .ret)))
def markStringS.keep : List Nat := [0, 1, 4, 5]
def markStringS.res : List RRes := [.tmp 4]
theorem markStringS.ofT {mo : Bool} {b0 : List ABox} {x' : Tr} {args : List AV} {r : AV} (hr : isScalR r = true) (hn : Nat.ble args.length Try.f62.ntmps = true) (hx : nb x' = b0.length) (h : aCode (Kn mo Try.prog) markStringS.keep b0.length markStringS.code (doneT markStringS.res b0.length r (gb x' 0)) ⟨argEnv 0 args, b0, []⟩) : Abs.Turn mo Try.prog 62 b0 args r (gb x' 0) :=
  Abs.Turn.of_ir hr Try.func62 rfl (by kernel_rfl) (Nat.le_of_ble_eq_true hn) (by kernel_rfl) (by kernel_rfl) hx h
abbrev markStringS.Turn (b0 : List ABox) (args : List AV) (r : AV) (b1 : List ABox) : Prop := Abs.Turn true Try.prog 62 b0 args r b1
def markText.code : ACode := (.seq (.region false [s 2 (.mv (.const (.string (.mk #[]))))]) (.seq (.seq (.region false [s 4 (.mv (t 0)), s 5 (.bin .leq (t 4) (.const (.int .i64 0)))]) (.cond (t 5) (.seq (.region false [s 2 (.mv (.const (.string (.mk #[109, 48]))))]) .ret) .skip)) (.seq (.region false [s 3 (.mv (.const (.string (.mk #[]))))]) (.seq (.block 0 (.loop (.seq (.seq (.region false [s 6 (.mv (t 0)), s 7 (.bin .gtr (t 6) (.const (.int .i64 0)))]) (.cond (t 7) .skip (.exit 0))) (.block 1 (.seq (.region false [s 8 (.mv (t 0)), s 9 (.bin .rem (t 8) (.const (.int .i64 10))), s 10 (.bin .add (.const (.int .i64 48)) (t 9)), s 11 (.conv .u8 (t 10)), s 12 (.bslice 5 1 true [(t 11)]), s 13 (.b2s (t 12)), s 14 (.mv (t 3)), s 15 (.bin .add (t 13) (t 14)), s 3 (.mv (t 15))]) (.region false [s 16 (.mv (t 0)), s 17 (.bin .quo (t 16) (.const (.int .i64 10))), s 0 (.mv (t 17))])))))) (.seq (.region false [s 18 (.mv (t 3)), s 19 (.bin .add (.const (.string (.mk #[109]))) (t 18)), s 2 (.mv (t 19))]) .ret)))))
def markText.keep : List Nat := [0, 2, 3]
def markText.res : List RRes := [.tmp 2]
theorem markText.ofS {mo : Bool} {args : List AV} {r : AV} (hr : isScalR r = true) (hn : Nat.ble args.length Try.f61.ntmps = true) (h : aCode (Kn mo Try.prog) markText.keep 0 markText.code (doneS markText.res r) ⟨argEnv 0 args, [], []⟩) : Abs.Ret mo Try.prog 61 args r [] :=
  Abs.Ret.of_irS hr Try.func61 rfl (by kernel_rfl) (Nat.le_of_ble_eq_true hn) (by kernel_rfl) (by kernel_rfl) h
abbrev markText.Ret (args : List AV) (r : AV) (frs : Fr) : Prop := Abs.Ret true Try.prog 61 args r frs
def szChoice.code : ACode := (.seq (.region false [s 2 (.box (t 0)), s 4 (.mv (.const (.int .i64 0)))]) (.seq (.region false [s 5 (.fadr 0 (t 2)), s 6 (.load true 3 (t 5)), s 7 (.mv (t 1)), s 8 (.call 72 [(t 6), (t 7)]), s 1 (.mv (t 8))]) (.seq (.seq (.region false [s 9 (.mv (t 1)), s 10 (.bin .lss (t 9) (.const (.int .i64 0)))]) (.cond (t 10) (.seq (.region false [s 4 (.mv (.const (.int .i64 (-1))))]) .ret) .skip)) (.seq (.region false [s 11 (.fadr 4 (t 2)), s 12 (.load false 1 (t 11)), s 13 (.mv (t 1)), s 14 (.call 73 [(t 12), (t 13)]), s 1 (.mv (t 14))]) (.seq (.seq (.region false [s 15 (.mv (t 1)), s 16 (.bin .lss (t 15) (.const (.int .i64 0)))]) (.cond (t 16) (.seq (.region false [s 4 (.mv (.const (.int .i64 (-1))))]) .ret) .skip)) (.seq (.region false [s 17 (.mv (t 1)), s 4 (.mv (t 17))]) .ret))))))
def szChoice.keep : List Nat := [0, 1, 2, 4]
def szChoice.res : List RRes := [.tmp 4]
theorem szChoice.of {mo : Bool} {args : List AV} {r : AV} {frs : Fr} (hn : Nat.ble args.length Try.f39.ntmps = true) (h : aCode (Kn mo Try.prog) szChoice.keep 0 szChoice.code (doneK szChoice.res r frs) ⟨argEnv 0 args, [], []⟩) : Abs.Ret mo Try.prog 39 args r frs :=
  Abs.Ret.of_ir Try.func39 rfl (by kernel_rfl) (Nat.le_of_ble_eq_true hn) (by kernel_rfl) (by kernel_rfl) h
abbrev szChoice.Ret (args : List AV) (r : AV) (frs : Fr) : Prop := Abs.Ret true Try.prog 39 args r frs
def szFact.code : ACode := (.seq (.region false [s 2 (.box (t 0)), s 4 (.mv (.const (.int .i64 0)))]) (.seq (.region false [s 5 (.mv (t 1)), s 6 (.fadr 0 (t 2)), s 7 (.load false 1 (t 6)), s 8 (.len true (t 7)), s 9 (.bin .sub (t 5) (t 8)), s 1 (.mv (t 9))]) (.seq (.seq (.region false [s 10 (.mv (t 1)), s 11 (.bin .lss (t 10) (.const (.int .i64 0)))]) (.cond (t 11) (.seq (.region false [s 4 (.mv (.const (.int .i64 (-1))))]) .ret) .skip)) (.seq (.region false [s 12 (.fadr 1 (t 2)), s 13 (.load false 1 (t 12)), s 14 (.mv (t 1)), s 15 (.call 67 [(t 13), (t 14)]), s 1 (.mv (t 15))]) (.seq (.seq (.region false [s 16 (.mv (t 1)), s 17 (.bin .lss (t 16) (.const (.int .i64 0)))]) (.cond (t 17) (.seq (.region false [s 4 (.mv (.const (.int .i64 (-1))))]) .ret) .skip)) (.seq (.region false [s 18 (.mv (t 1)), s 4 (.mv (t 18))]) .ret))))))
def szFact.keep : List Nat := [0, 1, 2, 4]
def szFact.res : List RRes := [.tmp 4]
theorem szFact.of {mo : Bool} {args : List AV} {r : AV} {frs : Fr} (hn : Nat.ble args.length Try.f25.ntmps = true) (h : aCode (Kn mo Try.prog) szFact.keep 0 szFact.code (doneK szFact.res r frs) ⟨argEnv 0 args, [], []⟩) : Abs.Ret mo Try.prog 25 args r frs :=
  Abs.Ret.of_ir Try.func25 rfl (by kernel_rfl) (Nat.le_of_ble_eq_true hn) (by kernel_rfl) (by kernel_rfl) h
abbrev szFact.Ret (args : List AV) (r : AV) (frs : Fr) : Prop := Abs.Ret true Try.prog 25 args r frs
def szFactS.code : ACode := (.seq (.region false [s 4 (.mv (.const (.int .i64 0)))]) (.seq (.region false [s 6 (.mv (t 1)), s 7 (.mv (t 0)), s 8 (.len false (t 7)), s 9 (.bin .sub (t 6) (t 8)), s 1 (.mv (t 9))]) (.seq (.seq (.region false [s 10 (.mv (t 1)), s 11 (.bin .lss (t 10) (.const (.int .i64 0)))]) (.cond (t 11) (.seq (.region false [s 4 (.mv (.const (.int .i64 (-1))))]) .ret) .skip)) (.seq (.seq (.region false [s 5 (.mv (.const (.int .i64 0)))]) (.block 0 (.loop (.seq (.seq (.region false [s 12 (.mv (t 5)), s 13 (.mv (t 0)), s 14 (.len false (t 13)), s 15 (.bin .lss (t 12) (t 14))]) (.cond (t 15) .skip (.exit 0))) (.seq (.block 1 (.seq (.region false [s 18 (.mv (t 0)), s 19 (.mv (t 5)), s 20 (.iadr 2 (t 18) (t 19)), s 21 (.load true 2 (t 20)), s 22 (.mv (t 1)), s 23 (.call 25 [(t 21), (t 22)]), s 1 (.mv (t 23))]) (.seq (.region false [s 24 (.mv (t 1)), s 25 (.bin .lss (t 24) (.const (.int .i64 0)))]) (.cond (t 25) (.seq (.region false [s 4 (.mv (.const (.int .i64 (-1))))]) .ret) .skip)))) (.region false [s 16 (.mv (t 5)), s 17 (.bin .add (t 16) (.const (.int .i64 1))), s 5 (.mv (t 17))])))))) (.seq (.region false [s 26 (.mv (t 1)), s 4 (.mv (t 26))]) .ret)))))
def szFactS.keep : List Nat := [0, 1, 4, 5]
def szFactS.res : List RRes := [.tmp 4]
theorem szFactS.of {mo : Bool} {args : List AV} {r : AV} {frs : Fr} (hn : Nat.ble args.length Try.f30.ntmps = true) (h : aCode (Kn mo Try.prog) szFactS.keep 0 szFactS.code (doneK szFactS.res r frs) ⟨argEnv 0 args, [], []⟩) : Abs.Ret mo Try.prog 30 args r frs :=
  Abs.Ret.of_ir Try.func30 rfl (by kernel_rfl) (Nat.le_of_ble_eq_true hn) (by kernel_rfl) (by kernel_rfl) h
abbrev szFactS.Ret (args : List AV) (r : AV) (frs : Fr) : Prop := Abs.Ret true Try.prog 30 args r frs
def szFiring.code : ACode := (.seq (.region false [s 2 (.box (t 0)), s 4 (.mv (.const (.int .i64 0)))]) (.seq (.region false [s 5 (.mv (t 1)), s 6 (.fadr 0 (t 2)), s 7 (.load false 1 (t 6)), s 8 (.len true (t 7)), s 9 (.bin .sub (t 5) (t 8)), s 1 (.mv (t 9))]) (.seq (.seq (.region false [s 10 (.mv (t 1)), s 11 (.bin .lss (t 10) (.const (.int .i64 0)))]) (.cond (t 11) (.seq (.region false [s 4 (.mv (.const (.int .i64 (-1))))]) .ret) .skip)) (.seq (.region false [s 12 (.fadr 1 (t 2)), s 13 (.load false 1 (t 12)), s 14 (.mv (t 1)), s 15 (.call 73 [(t 13), (t 14)]), s 1 (.mv (t 15))]) (.seq (.seq (.region false [s 16 (.mv (t 1)), s 17 (.bin .lss (t 16) (.const (.int .i64 0)))]) (.cond (t 17) (.seq (.region false [s 4 (.mv (.const (.int .i64 (-1))))]) .ret) .skip)) (.seq (.region false [s 18 (.mv (t 1)), s 4 (.mv (t 18))]) .ret))))))
def szFiring.keep : List Nat := [0, 1, 2, 4]
def szFiring.res : List RRes := [.tmp 4]
theorem szFiring.of {mo : Bool} {args : List AV} {r : AV} {frs : Fr} (hn : Nat.ble args.length Try.f83.ntmps = true) (h : aCode (Kn mo Try.prog) szFiring.keep 0 szFiring.code (doneK szFiring.res r frs) ⟨argEnv 0 args, [], []⟩) : Abs.Ret mo Try.prog 83 args r frs :=
  Abs.Ret.of_ir Try.func83 rfl (by kernel_rfl) (Nat.le_of_ble_eq_true hn) (by kernel_rfl) (by kernel_rfl) h
abbrev szFiring.Ret (args : List AV) (r : AV) (frs : Fr) : Prop := Abs.Ret true Try.prog 83 args r frs
def szFiringS.code : ACode := (.seq (.region false [s 4 (.mv (.const (.int .i64 0)))]) (.seq (.region false [s 6 (.mv (t 1)), s 7 (.mv (t 0)), s 8 (.len false (t 7)), s 9 (.bin .sub (t 6) (t 8)), s 1 (.mv (t 9))]) (.seq (.seq (.region false [s 10 (.mv (t 1)), s 11 (.bin .lss (t 10) (.const (.int .i64 0)))]) (.cond (t 11) (.seq (.region false [s 4 (.mv (.const (.int .i64 (-1))))]) .ret) .skip)) (.seq (.seq (.region false [s 5 (.mv (.const (.int .i64 0)))]) (.block 0 (.loop (.seq (.seq (.region false [s 12 (.mv (t 5)), s 13 (.mv (t 0)), s 14 (.len false (t 13)), s 15 (.bin .lss (t 12) (t 14))]) (.cond (t 15) .skip (.exit 0))) (.seq (.block 1 (.seq (.region false [s 18 (.mv (t 0)), s 19 (.mv (t 5)), s 20 (.iadr 2 (t 18) (t 19)), s 21 (.load true 2 (t 20)), s 22 (.mv (t 1)), s 23 (.call 83 [(t 21), (t 22)]), s 1 (.mv (t 23))]) (.seq (.region false [s 24 (.mv (t 1)), s 25 (.bin .lss (t 24) (.const (.int .i64 0)))]) (.cond (t 25) (.seq (.region false [s 4 (.mv (.const (.int .i64 (-1))))]) .ret) .skip)))) (.region false [s 16 (.mv (t 5)), s 17 (.bin .add (t 16) (.const (.int .i64 1))), s 5 (.mv (t 17))])))))) (.seq (.region false [s 26 (.mv (t 1)), s 4 (.mv (t 26))]) .ret)))))
def szFiringS.keep : List Nat := [0, 1, 4, 5]
def szFiringS.res : List RRes := [.tmp 4]
theorem szFiringS.of {mo : Bool} {args : List AV} {r : AV} {frs : Fr} (hn : Nat.ble args.length Try.f44.ntmps = true) (h : aCode (Kn mo Try.prog) szFiringS.keep 0 szFiringS.code (doneK szFiringS.res r frs) ⟨argEnv 0 args, [], []⟩) : Abs.Ret mo Try.prog 44 args r frs :=
  Abs.Ret.of_ir Try.func44 rfl (by kernel_rfl) (Nat.le_of_ble_eq_true hn) (by kernel_rfl) (by kernel_rfl) h
abbrev szFiringS.Ret (args : List AV) (r : AV) (frs : Fr) : Prop := Abs.Ret true Try.prog 44 args r frs
def szIntS.code : ACode := (.seq (.region false [s 4 (.mv (.const (.int .i64 0)))]) (.seq (.region false [s 5 (.mv (t 1)), s 6 (.mv (t 0)), s 7 (.len false (t 6)), s 8 (.bin .sub (t 5) (t 7)), s 1 (.mv (t 8))]) (.seq (.seq (.region false [s 9 (.mv (t 1)), s 10 (.bin .lss (t 9) (.const (.int .i64 0)))]) (.cond (t 10) (.seq (.region false [s 4 (.mv (.const (.int .i64 (-1))))]) .ret) .skip)) (.seq (.region false [s 11 (.mv (t 1)), s 4 (.mv (t 11))]) .ret))))
def szIntS.keep : List Nat := [0, 1, 4]
def szIntS.res : List RRes := [.tmp 4]
theorem szIntS.of {mo : Bool} {args : List AV} {r : AV} {frs : Fr} (hn : Nat.ble args.length Try.f73.ntmps = true) (h : aCode (Kn mo Try.prog) szIntS.keep 0 szIntS.code (doneK szIntS.res r frs) ⟨argEnv 0 args, [], []⟩) : Abs.Ret mo Try.prog 73 args r frs :=
  Abs.Ret.of_ir Try.func73 rfl (by kernel_rfl) (Nat.le_of_ble_eq_true hn) (by kernel_rfl) (by kernel_rfl) h
abbrev szIntS.Ret (args : List AV) (r : AV) (frs : Fr) : Prop := Abs.Ret true Try.prog 73 args r frs
def szMatch.code : ACode := (.seq (.region false [s 2 (.box (t 0)), s 4 (.mv (.const (.int .i64 0)))]) (.seq (.region false [s 5 (.mv (t 1)), s 6 (.fadr 0 (t 2)), s 7 (.load false 1 (t 6)), s 8 (.len true (t 7)), s 9 (.bin .sub (t 5) (t 8)), s 1 (.mv (t 9))]) (.seq (.seq (.region false [s 10 (.mv (t 1)), s 11 (.bin .lss (t 10) (.const (.int .i64 0)))]) (.cond (t 11) (.seq (.region false [s 4 (.mv (.const (.int .i64 (-1))))]) .ret) .skip)) (.seq (.region false [s 12 (.fadr 1 (t 2)), s 13 (.load false 1 (t 12)), s 14 (.mv (t 1)), s 15 (.call 30 [(t 13), (t 14)]), s 1 (.mv (t 15))]) (.seq (.seq (.region false [s 16 (.mv (t 1)), s 17 (.bin .lss (t 16) (.const (.int .i64 0)))]) (.cond (t 17) (.seq (.region false [s 4 (.mv (.const (.int .i64 (-1))))]) .ret) .skip)) (.seq (.region false [s 18 (.fadr 2 (t 2)), s 19 (.load false 1 (t 18)), s 20 (.mv (t 1)), s 21 (.call 102 [(t 19), (t 20)]), s 1 (.mv (t 21))]) (.seq (.seq (.region false [s 22 (.mv (t 1)), s 23 (.bin .lss (t 22) (.const (.int .i64 0)))]) (.cond (t 23) (.seq (.region false [s 4 (.mv (.const (.int .i64 (-1))))]) .ret) .skip)) (.seq (.region false [s 24 (.mv (t 1)), s 4 (.mv (t 24))]) .ret))))))))
def szMatch.keep : List Nat := [0, 1, 2, 4]
def szMatch.res : List RRes := [.tmp 4]
theorem szMatch.of {mo : Bool} {args : List AV} {r : AV} {frs : Fr} (hn : Nat.ble args.length Try.f72.ntmps = true) (h : aCode (Kn mo Try.prog) szMatch.keep 0 szMatch.code (doneK szMatch.res r frs) ⟨argEnv 0 args, [], []⟩) : Abs.Ret mo Try.prog 72 args r frs :=
  Abs.Ret.of_ir Try.func72 rfl (by kernel_rfl) (Nat.le_of_ble_eq_true hn) (by kernel_rfl) (by kernel_rfl) h
abbrev szMatch.Ret (args : List AV) (r : AV) (frs : Fr) : Prop := Abs.Ret true Try.prog 72 args r frs
def szPair.code : ACode := (.seq (.region false [s 2 (.box (t 0)), s 4 (.mv (.const (.int .i64 0)))]) (.seq (.region false [s 5 (.mv (t 1)), s 6 (.fadr 0 (t 2)), s 7 (.load false 1 (t 6)), s 8 (.len true (t 7)), s 9 (.bin .sub (t 5) (t 8)), s 1 (.mv (t 9))]) (.seq (.seq (.region false [s 10 (.mv (t 1)), s 11 (.bin .lss (t 10) (.const (.int .i64 0)))]) (.cond (t 11) (.seq (.region false [s 4 (.mv (.const (.int .i64 (-1))))]) .ret) .skip)) (.seq (.region false [s 12 (.mv (t 1)), s 13 (.fadr 1 (t 2)), s 14 (.load false 1 (t 13)), s 15 (.len true (t 14)), s 16 (.bin .sub (t 12) (t 15)), s 1 (.mv (t 16))]) (.seq (.seq (.region false [s 17 (.mv (t 1)), s 18 (.bin .lss (t 17) (.const (.int .i64 0)))]) (.cond (t 18) (.seq (.region false [s 4 (.mv (.const (.int .i64 (-1))))]) .ret) .skip)) (.seq (.region false [s 19 (.mv (t 1)), s 4 (.mv (t 19))]) .ret))))))
def szPair.keep : List Nat := [0, 1, 2, 4]
def szPair.res : List RRes := [.tmp 4]
theorem szPair.of {mo : Bool} {args : List AV} {r : AV} {frs : Fr} (hn : Nat.ble args.length Try.f127.ntmps = true) (h : aCode (Kn mo Try.prog) szPair.keep 0 szPair.code (doneK szPair.res r frs) ⟨argEnv 0 args, [], []⟩) : Abs.Ret mo Try.prog 127 args r frs :=
  Abs.Ret.of_ir Try.func127 rfl (by kernel_rfl) (Nat.le_of_ble_eq_true hn) (by kernel_rfl) (by kernel_rfl) h
abbrev szPair.Ret (args : List AV) (r : AV) (frs : Fr) : Prop := Abs.Ret true Try.prog 127 args r frs
def szPairS.code : ACode := (.seq (.region false [s 4 (.mv (.const (.int .i64 0)))]) (.seq (.region false [s 6 (.mv (t 1)), s 7 (.mv (t 0)), s 8 (.len false (t 7)), s 9 (.bin .sub (t 6) (t 8)), s 1 (.mv (t 9))]) (.seq (.seq (.region false [s 10 (.mv (t 1)), s 11 (.bin .lss (t 10) (.const (.int .i64 0)))]) (.cond (t 11) (.seq (.region false [s 4 (.mv (.const (.int .i64 (-1))))]) .ret) .skip)) (.seq (.seq (.region false [s 5 (.mv (.const (.int .i64 0)))]) (.block 0 (.loop (.seq (.seq (.region false [s 12 (.mv (t 5)), s 13 (.mv (t 0)), s 14 (.len false (t 13)), s 15 (.bin .lss (t 12) (t 14))]) (.cond (t 15) .skip (.exit 0))) (.seq (.block 1 (.seq (.region false [s 18 (.mv (t 0)), s 19 (.mv (t 5)), s 20 (.iadr 2 (t 18) (t 19)), s 21 (.load true 2 (t 20)), s 22 (.mv (t 1)), s 23 (.call 127 [(t 21), (t 22)]), s 1 (.mv (t 23))]) (.seq (.region false [s 24 (.mv (t 1)), s 25 (.bin .lss (t 24) (.const (.int .i64 0)))]) (.cond (t 25) (.seq (.region false [s 4 (.mv (.const (.int .i64 (-1))))]) .ret) .skip)))) (.region false [s 16 (.mv (t 5)), s 17 (.bin .add (t 16) (.const (.int .i64 1))), s 5 (.mv (t 17))])))))) (.seq (.region false [s 26 (.mv (t 1)), s 4 (.mv (t 26))]) .ret)))))
def szPairS.keep : List Nat := [0, 1, 4, 5]
def szPairS.res : List RRes := [.tmp 4]
theorem szPairS.of {mo : Bool} {args : List AV} {r : AV} {frs : Fr} (hn : Nat.ble args.length Try.f102.ntmps = true) (h : aCode (Kn mo Try.prog) szPairS.keep 0 szPairS.code (doneK szPairS.res r frs) ⟨argEnv 0 args, [], []⟩) : Abs.Ret mo Try.prog 102 args r frs :=
  Abs.Ret.of_ir Try.func102 rfl (by kernel_rfl) (Nat.le_of_ble_eq_true hn) (by kernel_rfl) (by kernel_rfl) h
abbrev szPairS.Ret (args : List AV) (r : AV) (frs : Fr) : Prop := Abs.Ret true Try.prog 102 args r frs
def szStamp.code : ACode := (.seq (.region false [s 2 (.box (t 0)), s 4 (.mv (.const (.int .i64 0)))]) (.seq (.region false [s 5 (.fadr 0 (t 2)), s 6 (.load true 2 (t 5)), s 7 (.mv (t 1)), s 8 (.call 25 [(t 6), (t 7)]), s 1 (.mv (t 8))]) (.seq (.seq (.region false [s 9 (.mv (t 1)), s 10 (.bin .lss (t 9) (.const (.int .i64 0)))]) (.cond (t 10) (.seq (.region false [s 4 (.mv (.const (.int .i64 (-1))))]) .ret) .skip)) (.seq (.region false [s 11 (.mv (t 1)), s 4 (.mv (t 11))]) .ret))))
def szStamp.keep : List Nat := [0, 1, 2, 4]
def szStamp.res : List RRes := [.tmp 4]
theorem szStamp.of {mo : Bool} {args : List AV} {r : AV} {frs : Fr} (hn : Nat.ble args.length Try.f56.ntmps = true) (h : aCode (Kn mo Try.prog) szStamp.keep 0 szStamp.code (doneK szStamp.res r frs) ⟨argEnv 0 args, [], []⟩) : Abs.Ret mo Try.prog 56 args r frs :=
  Abs.Ret.of_ir Try.func56 rfl (by kernel_rfl) (Nat.le_of_ble_eq_true hn) (by kernel_rfl) (by kernel_rfl) h
abbrev szStamp.Ret (args : List AV) (r : AV) (frs : Fr) : Prop := Abs.Ret true Try.prog 56 args r frs
def szStampS.code : ACode := (.seq (.region false [s 4 (.mv (.const (.int .i64 0)))]) (.seq (.region false [s 6 (.mv (t 1)), s 7 (.mv (t 0)), s 8 (.len false (t 7)), s 9 (.bin .sub (t 6) (t 8)), s 1 (.mv (t 9))]) (.seq (.seq (.region false [s 10 (.mv (t 1)), s 11 (.bin .lss (t 10) (.const (.int .i64 0)))]) (.cond (t 11) (.seq (.region false [s 4 (.mv (.const (.int .i64 (-1))))]) .ret) .skip)) (.seq (.seq (.region false [s 5 (.mv (.const (.int .i64 0)))]) (.block 0 (.loop (.seq (.seq (.region false [s 12 (.mv (t 5)), s 13 (.mv (t 0)), s 14 (.len false (t 13)), s 15 (.bin .lss (t 12) (t 14))]) (.cond (t 15) .skip (.exit 0))) (.seq (.block 1 (.seq (.region false [s 18 (.mv (t 0)), s 19 (.mv (t 5)), s 20 (.iadr 3 (t 18) (t 19)), s 21 (.load true 3 (t 20)), s 22 (.mv (t 1)), s 23 (.call 56 [(t 21), (t 22)]), s 1 (.mv (t 23))]) (.seq (.region false [s 24 (.mv (t 1)), s 25 (.bin .lss (t 24) (.const (.int .i64 0)))]) (.cond (t 25) (.seq (.region false [s 4 (.mv (.const (.int .i64 (-1))))]) .ret) .skip)))) (.region false [s 16 (.mv (t 5)), s 17 (.bin .add (t 16) (.const (.int .i64 1))), s 5 (.mv (t 17))])))))) (.seq (.region false [s 26 (.mv (t 1)), s 4 (.mv (t 26))]) .ret)))))
def szStampS.keep : List Nat := [0, 1, 4, 5]
def szStampS.res : List RRes := [.tmp 4]
theorem szStampS.of {mo : Bool} {args : List AV} {r : AV} {frs : Fr} (hn : Nat.ble args.length Try.f14.ntmps = true) (h : aCode (Kn mo Try.prog) szStampS.keep 0 szStampS.code (doneK szStampS.res r frs) ⟨argEnv 0 args, [], []⟩) : Abs.Ret mo Try.prog 14 args r frs :=
  Abs.Ret.of_ir Try.func14 rfl (by kernel_rfl) (Nat.le_of_ble_eq_true hn) (by kernel_rfl) (by kernel_rfl) h
abbrev szStampS.Ret (args : List AV) (r : AV) (frs : Fr) : Prop := Abs.Ret true Try.prog 14 args r frs
def szStringS.code : ACode := (.seq (.region false [s 4 (.mv (.const (.int .i64 0)))]) (.seq (.region false [s 6 (.mv (t 1)), s 7 (.mv (t 0)), s 8 (.len false (t 7)), s 9 (.bin .sub (t 6) (t 8)), s 1 (.mv (t 9))]) (.seq (.seq (.region false [s 10 (.mv (t 1)), s 11 (.bin .lss (t 10) (.const (.int .i64 0)))]) (.cond (t 11) (.seq (.region false [s 4 (.mv (.const (.int .i64 (-1))))]) .ret) .skip)) (.seq (.seq (.region false [s 5 (.mv (.const (.int .i64 0)))]) (.block 0 (.loop (.seq (.seq (.region false [s 12 (.mv (t 5)), s 13 (.mv (t 0)), s 14 (.len false (t 13)), s 15 (.bin .lss (t 12) (t 14))]) (.cond (t 15) .skip (.exit 0))) (.seq (.block 1 (.seq (.region false [s 18 (.mv (t 1)), s 19 (.mv (t 0)), s 20 (.mv (t 5)), s 21 (.iadr 1 (t 19) (t 20)), s 22 (.load false 1 (t 21)), s 23 (.len true (t 22)), s 24 (.bin .sub (t 18) (t 23)), s 1 (.mv (t 24))]) (.seq (.region false [s 25 (.mv (t 1)), s 26 (.bin .lss (t 25) (.const (.int .i64 0)))]) (.cond (t 26) (.seq (.region false [s 4 (.mv (.const (.int .i64 (-1))))]) .ret) .skip)))) (.region false [s 16 (.mv (t 5)), s 17 (.bin .add (t 16) (.const (.int .i64 1))), s 5 (.mv (t 17))])))))) (.seq (.region false [s 27 (.mv (t 1)), s 4 (.mv (t 27))]) .ret)))))
def szStringS.keep : List Nat := [0, 1, 4, 5]
def szStringS.res : List RRes := [.tmp 4]
theorem szStringS.of {mo : Bool} {args : List AV} {r : AV} {frs : Fr} (hn : Nat.ble args.length Try.f67.ntmps = true) (h : aCode (Kn mo Try.prog) szStringS.keep 0 szStringS.code (doneK szStringS.res r frs) ⟨argEnv 0 args, [], []⟩) : Abs.Ret mo Try.prog 67 args r frs :=
  Abs.Ret.of_ir Try.func67 rfl (by kernel_rfl) (Nat.le_of_ble_eq_true hn) (by kernel_rfl) (by kernel_rfl) h
abbrev szStringS.Ret (args : List AV) (r : AV) (frs : Fr) : Prop := Abs.Ret true Try.prog 67 args r frs
def toChoice.code : ACode := (.seq (.region false [s 1 (.box (t 0)), s 2 (.alloc [(.string (.mk (.mk []))), (.slice none 0 0), (.slice none 0 0), (.int .i64 (.ofNat 0)), (.slice none 0 0), (.int .i64 (.ofNat 0)), (.int .i64 (.ofNat 0))])]) (.seq (.region false [s 3 (.alloc [(.string (.mk (.mk []))), (.slice none 0 0), (.slice none 0 0), (.int .i64 (.ofNat 0)), (.slice none 0 0), (.int .i64 (.ofNat 0)), (.int .i64 (.ofNat 0))])]) (.seq (.region false [s 4 (.fadr 0 (t 1)), s 5 (.load true 3 (t 4)), s 6 (.call 77 [(t 5)]), s 7 (.fadr 0 (t 3)), ⟨none, none, (.store 3 (t 7) (t 6))⟩]) (.seq (.region false [s 8 (.fadr 3 (t 1)), s 9 (.load false 1 (t 8)), s 10 (.fadr 3 (t 3)), ⟨none, none, (.store 1 (t 10) (t 9))⟩]) (.seq (.region false [s 11 (.fadr 4 (t 1)), s 12 (.load false 1 (t 11)), s 13 (.call 38 [(t 12)]), s 14 (.fadr 4 (t 3)), ⟨none, none, (.store 1 (t 14) (t 13))⟩]) (.seq (.region false [s 15 (.fadr 5 (t 1)), s 16 (.load false 1 (t 15)), s 17 (.fadr 5 (t 3)), ⟨none, none, (.store 1 (t 17) (t 16))⟩]) (.seq (.region false [s 18 (.fadr 6 (t 1)), s 19 (.load false 1 (t 18)), s 20 (.fadr 6 (t 3)), ⟨none, none, (.store 1 (t 20) (t 19))⟩]) (.seq (.region false [s 21 (.load true 7 (t 3)), ⟨none, none, (.store 7 (t 2) (t 21))⟩]) .ret))))))))
def toChoice.keep : List Nat := [0, 1, 2, 3]
def toChoice.res : List RRes := [.cell 2 true 7]
theorem toChoice.of {mo : Bool} {args : List AV} {r : AV} {frs : Fr} (hn : Nat.ble args.length Try.f41.ntmps = true) (h : aCode (Kn mo Try.prog) toChoice.keep 0 toChoice.code (doneK toChoice.res r frs) ⟨argEnv 0 args, [], []⟩) : Abs.Ret mo Try.prog 41 args r frs :=
  Abs.Ret.of_ir Try.func41 rfl (by kernel_rfl) (Nat.le_of_ble_eq_true hn) (by kernel_rfl) (by kernel_rfl) h
abbrev toChoice.Own (args : List AV) (x : Tr) : Prop := Abs.Own true Try.prog 41 args x
abbrev toChoice.Ret (args : List AV) (r : AV) (frs : Fr) : Prop := Abs.Ret true Try.prog 41 args r frs
def toFact.code : ACode := (.seq (.region false [s 1 (.box (t 0)), s 2 (.alloc [(.string (.mk (.mk []))), (.slice none 0 0)])]) (.seq (.region false [s 3 (.alloc [(.string (.mk (.mk []))), (.slice none 0 0)])]) (.seq (.region false [s 4 (.fadr 0 (t 1)), s 5 (.load false 1 (t 4)), s 6 (.fadr 0 (t 3)), ⟨none, none, (.store 1 (t 6) (t 5))⟩]) (.seq (.region false [s 7 (.fadr 1 (t 1)), s 8 (.load false 1 (t 7)), s 9 (.call 69 [(t 8)]), s 10 (.fadr 1 (t 3)), ⟨none, none, (.store 1 (t 10) (t 9))⟩]) (.seq (.region false [s 11 (.load true 2 (t 3)), ⟨none, none, (.store 2 (t 2) (t 11))⟩]) .ret)))))
def toFact.keep : List Nat := [0, 1, 2, 3]
def toFact.res : List RRes := [.cell 2 true 2]
theorem toFact.of {mo : Bool} {args : List AV} {r : AV} {frs : Fr} (hn : Nat.ble args.length Try.f27.ntmps = true) (h : aCode (Kn mo Try.prog) toFact.keep 0 toFact.code (doneK toFact.res r frs) ⟨argEnv 0 args, [], []⟩) : Abs.Ret mo Try.prog 27 args r frs :=
  Abs.Ret.of_ir Try.func27 rfl (by kernel_rfl) (Nat.le_of_ble_eq_true hn) (by kernel_rfl) (by kernel_rfl) h
abbrev toFact.Own (args : List AV) (x : Tr) : Prop := Abs.Own true Try.prog 27 args x
abbrev toFact.Ret (args : List AV) (r : AV) (frs : Fr) : Prop := Abs.Ret true Try.prog 27 args r frs
def toFactS.code : ACode := (.seq (.region false [s 2 (.mv (.const (.slice none 0 0)))]) (.seq (.region false [s 5 (.mv (t 0)), s 6 (.len false (t 5)), s 7 (.make 44 [(.string (.mk (.mk []))), (.slice none 0 0)] 2 40 (t 6)), s 3 (.mv (t 7))]) (.seq (.seq (.region false [s 4 (.mv (.const (.int .i64 0)))]) (.block 0 (.loop (.seq (.seq (.region false [s 8 (.mv (t 4)), s 9 (.mv (t 0)), s 10 (.len false (t 9)), s 11 (.bin .lss (t 8) (t 10))]) (.cond (t 11) .skip (.exit 0))) (.seq (.block 1 (.region false [s 14 (.mv (t 3)), s 15 (.mv (t 4)), s 16 (.mv (t 0)), s 17 (.mv (t 4)), s 18 (.iadr 2 (t 16) (t 17)), s 19 (.load true 2 (t 18)), s 20 (.call 27 [(t 19)]), s 21 (.iadr 2 (t 14) (t 15)), ⟨none, none, (.store 2 (t 21) (t 20))⟩])) (.region false [s 12 (.mv (t 4)), s 13 (.bin .add (t 12) (.const (.int .i64 1))), s 4 (.mv (t 13))])))))) (.seq (.region false [s 22 (.mv (t 3)), s 2 (.mv (t 22))]) .ret))))
def toFactS.keep : List Nat := [0, 2, 3, 4]
def toFactS.res : List RRes := [.tmp 2]
theorem toFactS.of {mo : Bool} {args : List AV} {r : AV} {frs : Fr} (hn : Nat.ble args.length Try.f32.ntmps = true) (h : aCode (Kn mo Try.prog) toFactS.keep 0 toFactS.code (doneK toFactS.res r frs) ⟨argEnv 0 args, [], []⟩) : Abs.Ret mo Try.prog 32 args r frs :=
  Abs.Ret.of_ir Try.func32 rfl (by kernel_rfl) (Nat.le_of_ble_eq_true hn) (by kernel_rfl) (by kernel_rfl) h
abbrev toFactS.Own (args : List AV) (x : Tr) : Prop := Abs.Own true Try.prog 32 args x
abbrev toFactS.Ret (args : List AV) (r : AV) (frs : Fr) : Prop := Abs.Ret true Try.prog 32 args r frs
def toFiring.code : ACode := (.seq (.region false [s 1 (.box (t 0)), s 2 (.alloc [(.string (.mk (.mk []))), (.slice none 0 0)])]) (.seq (.region false [s 3 (.alloc [(.string (.mk (.mk []))), (.slice none 0 0)])]) (.seq (.region false [s 4 (.fadr 0 (t 1)), s 5 (.load false 1 (t 4)), s 6 (.fadr 0 (t 3)), ⟨none, none, (.store 1 (t 6) (t 5))⟩]) (.seq (.region false [s 7 (.fadr 1 (t 1)), s 8 (.load false 1 (t 7)), s 9 (.call 38 [(t 8)]), s 10 (.fadr 1 (t 3)), ⟨none, none, (.store 1 (t 10) (t 9))⟩]) (.seq (.region false [s 11 (.load true 2 (t 3)), ⟨none, none, (.store 2 (t 2) (t 11))⟩]) .ret)))))
def toFiring.keep : List Nat := [0, 1, 2, 3]
def toFiring.res : List RRes := [.cell 2 true 2]
theorem toFiring.of {mo : Bool} {args : List AV} {r : AV} {frs : Fr} (hn : Nat.ble args.length Try.f85.ntmps = true) (h : aCode (Kn mo Try.prog) toFiring.keep 0 toFiring.code (doneK toFiring.res r frs) ⟨argEnv 0 args, [], []⟩) : Abs.Ret mo Try.prog 85 args r frs :=
  Abs.Ret.of_ir Try.func85 rfl (by kernel_rfl) (Nat.le_of_ble_eq_true hn) (by kernel_rfl) (by kernel_rfl) h
abbrev toFiring.Ret (args : List AV) (r : AV) (frs : Fr) : Prop := Abs.Ret true Try.prog 85 args r frs
def toFiringS.code : ACode := (.seq (.region false [s 2 (.mv (.const (.slice none 0 0)))]) (.seq (.region false [s 5 (.mv (t 0)), s 6 (.len false (t 5)), s 7 (.make 111 [(.string (.mk (.mk []))), (.slice none 0 0)] 2 40 (t 6)), s 3 (.mv (t 7))]) (.seq (.seq (.region false [s 4 (.mv (.const (.int .i64 0)))]) (.block 0 (.loop (.seq (.seq (.region false [s 8 (.mv (t 4)), s 9 (.mv (t 0)), s 10 (.len false (t 9)), s 11 (.bin .lss (t 8) (t 10))]) (.cond (t 11) .skip (.exit 0))) (.seq (.block 1 (.region false [s 14 (.mv (t 3)), s 15 (.mv (t 4)), s 16 (.mv (t 0)), s 17 (.mv (t 4)), s 18 (.iadr 2 (t 16) (t 17)), s 19 (.load true 2 (t 18)), s 20 (.call 85 [(t 19)]), s 21 (.iadr 2 (t 14) (t 15)), ⟨none, none, (.store 2 (t 21) (t 20))⟩])) (.region false [s 12 (.mv (t 4)), s 13 (.bin .add (t 12) (.const (.int .i64 1))), s 4 (.mv (t 13))])))))) (.seq (.region false [s 22 (.mv (t 3)), s 2 (.mv (t 22))]) .ret))))
def toFiringS.keep : List Nat := [0, 2, 3, 4]
def toFiringS.res : List RRes := [.tmp 2]
theorem toFiringS.of {mo : Bool} {args : List AV} {r : AV} {frs : Fr} (hn : Nat.ble args.length Try.f46.ntmps = true) (h : aCode (Kn mo Try.prog) toFiringS.keep 0 toFiringS.code (doneK toFiringS.res r frs) ⟨argEnv 0 args, [], []⟩) : Abs.Ret mo Try.prog 46 args r frs :=
  Abs.Ret.of_ir Try.func46 rfl (by kernel_rfl) (Nat.le_of_ble_eq_true hn) (by kernel_rfl) (by kernel_rfl) h
abbrev toFiringS.Own (args : List AV) (x : Tr) : Prop := Abs.Own true Try.prog 46 args x
abbrev toFiringS.Ret (args : List AV) (r : AV) (frs : Fr) : Prop := Abs.Ret true Try.prog 46 args r frs
def toIntS.code : ACode := (.seq (.region false [s 2 (.mv (.const (.slice none 0 0)))]) (.seq (.region false [s 5 (.mv (t 0)), s 6 (.len false (t 5)), s 7 (.make 3 [(.int .i64 (.ofNat 0))] 1 8 (t 6)), s 3 (.mv (t 7))]) (.seq (.seq (.region false [s 4 (.mv (.const (.int .i64 0)))]) (.block 0 (.loop (.seq (.seq (.region false [s 8 (.mv (t 4)), s 9 (.mv (t 0)), s 10 (.len false (t 9)), s 11 (.bin .lss (t 8) (t 10))]) (.cond (t 11) .skip (.exit 0))) (.seq (.block 1 (.region false [s 14 (.mv (t 3)), s 15 (.mv (t 4)), s 16 (.mv (t 0)), s 17 (.mv (t 4)), s 18 (.iadr 1 (t 16) (t 17)), s 19 (.load false 1 (t 18)), s 20 (.iadr 1 (t 14) (t 15)), ⟨none, none, (.store 1 (t 20) (t 19))⟩])) (.region false [s 12 (.mv (t 4)), s 13 (.bin .add (t 12) (.const (.int .i64 1))), s 4 (.mv (t 13))])))))) (.seq (.region false [s 21 (.mv (t 3)), s 2 (.mv (t 21))]) .ret))))
def toIntS.keep : List Nat := [0, 2, 3, 4]
def toIntS.res : List RRes := [.tmp 2]
theorem toIntS.of {mo : Bool} {args : List AV} {r : AV} {frs : Fr} (hn : Nat.ble args.length Try.f38.ntmps = true) (h : aCode (Kn mo Try.prog) toIntS.keep 0 toIntS.code (doneK toIntS.res r frs) ⟨argEnv 0 args, [], []⟩) : Abs.Ret mo Try.prog 38 args r frs :=
  Abs.Ret.of_ir Try.func38 rfl (by kernel_rfl) (Nat.le_of_ble_eq_true hn) (by kernel_rfl) (by kernel_rfl) h
abbrev toIntS.Ret (args : List AV) (r : AV) (frs : Fr) : Prop := Abs.Ret true Try.prog 38 args r frs
def toMatch.code : ACode := (.seq (.region false [s 1 (.box (t 0)), s 2 (.alloc [(.string (.mk (.mk []))), (.slice none 0 0), (.slice none 0 0)])]) (.seq (.region false [s 3 (.alloc [(.string (.mk (.mk []))), (.slice none 0 0), (.slice none 0 0)])]) (.seq (.region false [s 4 (.fadr 0 (t 1)), s 5 (.load false 1 (t 4)), s 6 (.fadr 0 (t 3)), ⟨none, none, (.store 1 (t 6) (t 5))⟩]) (.seq (.region false [s 7 (.fadr 1 (t 1)), s 8 (.load false 1 (t 7)), s 9 (.call 32 [(t 8)]), s 10 (.fadr 1 (t 3)), ⟨none, none, (.store 1 (t 10) (t 9))⟩]) (.seq (.region false [s 11 (.fadr 2 (t 1)), s 12 (.load false 1 (t 11)), s 13 (.call 103 [(t 12)]), s 14 (.fadr 2 (t 3)), ⟨none, none, (.store 1 (t 14) (t 13))⟩]) (.seq (.region false [s 15 (.load true 3 (t 3)), ⟨none, none, (.store 3 (t 2) (t 15))⟩]) .ret))))))
def toMatch.keep : List Nat := [0, 1, 2, 3]
def toMatch.res : List RRes := [.cell 2 true 3]
theorem toMatch.of {mo : Bool} {args : List AV} {r : AV} {frs : Fr} (hn : Nat.ble args.length Try.f77.ntmps = true) (h : aCode (Kn mo Try.prog) toMatch.keep 0 toMatch.code (doneK toMatch.res r frs) ⟨argEnv 0 args, [], []⟩) : Abs.Ret mo Try.prog 77 args r frs :=
  Abs.Ret.of_ir Try.func77 rfl (by kernel_rfl) (Nat.le_of_ble_eq_true hn) (by kernel_rfl) (by kernel_rfl) h
abbrev toMatch.Ret (args : List AV) (r : AV) (frs : Fr) : Prop := Abs.Ret true Try.prog 77 args r frs
def toPair.code : ACode := (.seq (.region false [s 1 (.box (t 0)), s 2 (.alloc [(.string (.mk (.mk []))), (.string (.mk (.mk [])))])]) (.seq (.region false [s 3 (.alloc [(.string (.mk (.mk []))), (.string (.mk (.mk [])))])]) (.seq (.region false [s 4 (.fadr 0 (t 1)), s 5 (.load false 1 (t 4)), s 6 (.fadr 0 (t 3)), ⟨none, none, (.store 1 (t 6) (t 5))⟩]) (.seq (.region false [s 7 (.fadr 1 (t 1)), s 8 (.load false 1 (t 7)), s 9 (.fadr 1 (t 3)), ⟨none, none, (.store 1 (t 9) (t 8))⟩]) (.seq (.region false [s 10 (.load true 2 (t 3)), ⟨none, none, (.store 2 (t 2) (t 10))⟩]) .ret)))))
def toPair.keep : List Nat := [0, 1, 2, 3]
def toPair.res : List RRes := [.cell 2 true 2]
theorem toPair.of {mo : Bool} {args : List AV} {r : AV} {frs : Fr} (hn : Nat.ble args.length Try.f128.ntmps = true) (h : aCode (Kn mo Try.prog) toPair.keep 0 toPair.code (doneK toPair.res r frs) ⟨argEnv 0 args, [], []⟩) : Abs.Ret mo Try.prog 128 args r frs :=
  Abs.Ret.of_ir Try.func128 rfl (by kernel_rfl) (Nat.le_of_ble_eq_true hn) (by kernel_rfl) (by kernel_rfl) h
abbrev toPair.Ret (args : List AV) (r : AV) (frs : Fr) : Prop := Abs.Ret true Try.prog 128 args r frs
def toPairS.code : ACode := (.seq (.region false [s 2 (.mv (.const (.slice none 0 0)))]) (.seq (.region false [s 5 (.mv (t 0)), s 6 (.len false (t 5)), s 7 (.make 149 [(.string (.mk (.mk []))), (.string (.mk (.mk [])))] 2 32 (t 6)), s 3 (.mv (t 7))]) (.seq (.seq (.region false [s 4 (.mv (.const (.int .i64 0)))]) (.block 0 (.loop (.seq (.seq (.region false [s 8 (.mv (t 4)), s 9 (.mv (t 0)), s 10 (.len false (t 9)), s 11 (.bin .lss (t 8) (t 10))]) (.cond (t 11) .skip (.exit 0))) (.seq (.block 1 (.region false [s 14 (.mv (t 3)), s 15 (.mv (t 4)), s 16 (.mv (t 0)), s 17 (.mv (t 4)), s 18 (.iadr 2 (t 16) (t 17)), s 19 (.load true 2 (t 18)), s 20 (.call 128 [(t 19)]), s 21 (.iadr 2 (t 14) (t 15)), ⟨none, none, (.store 2 (t 21) (t 20))⟩])) (.region false [s 12 (.mv (t 4)), s 13 (.bin .add (t 12) (.const (.int .i64 1))), s 4 (.mv (t 13))])))))) (.seq (.region false [s 22 (.mv (t 3)), s 2 (.mv (t 22))]) .ret))))
def toPairS.keep : List Nat := [0, 2, 3, 4]
def toPairS.res : List RRes := [.tmp 2]
theorem toPairS.of {mo : Bool} {args : List AV} {r : AV} {frs : Fr} (hn : Nat.ble args.length Try.f103.ntmps = true) (h : aCode (Kn mo Try.prog) toPairS.keep 0 toPairS.code (doneK toPairS.res r frs) ⟨argEnv 0 args, [], []⟩) : Abs.Ret mo Try.prog 103 args r frs :=
  Abs.Ret.of_ir Try.func103 rfl (by kernel_rfl) (Nat.le_of_ble_eq_true hn) (by kernel_rfl) (by kernel_rfl) h
abbrev toPairS.Ret (args : List AV) (r : AV) (frs : Fr) : Prop := Abs.Ret true Try.prog 103 args r frs
def toStamp.code : ACode := (.seq (.region false [s 1 (.box (t 0)), s 2 (.alloc [(.string (.mk (.mk []))), (.slice none 0 0), (.int .i64 (.ofNat 0))])]) (.seq (.region false [s 3 (.alloc [(.string (.mk (.mk []))), (.slice none 0 0), (.int .i64 (.ofNat 0))])]) (.seq (.region false [s 4 (.fadr 0 (t 1)), s 5 (.load true 2 (t 4)), s 6 (.call 27 [(t 5)]), s 7 (.fadr 0 (t 3)), ⟨none, none, (.store 2 (t 7) (t 6))⟩]) (.seq (.region false [s 8 (.fadr 2 (t 1)), s 9 (.load false 1 (t 8)), s 10 (.fadr 2 (t 3)), ⟨none, none, (.store 1 (t 10) (t 9))⟩]) (.seq (.region false [s 11 (.load true 3 (t 3)), ⟨none, none, (.store 3 (t 2) (t 11))⟩]) .ret)))))
def toStamp.keep : List Nat := [0, 1, 2, 3]
def toStamp.res : List RRes := [.cell 2 true 3]
theorem toStamp.of {mo : Bool} {args : List AV} {r : AV} {frs : Fr} (hn : Nat.ble args.length Try.f58.ntmps = true) (h : aCode (Kn mo Try.prog) toStamp.keep 0 toStamp.code (doneK toStamp.res r frs) ⟨argEnv 0 args, [], []⟩) : Abs.Ret mo Try.prog 58 args r frs :=
  Abs.Ret.of_ir Try.func58 rfl (by kernel_rfl) (Nat.le_of_ble_eq_true hn) (by kernel_rfl) (by kernel_rfl) h
abbrev toStamp.Ret (args : List AV) (r : AV) (frs : Fr) : Prop := Abs.Ret true Try.prog 58 args r frs
def toStampS.code : ACode := (.seq (.region false [s 2 (.mv (.const (.slice none 0 0)))]) (.seq (.region false [s 5 (.mv (t 0)), s 6 (.len false (t 5)), s 7 (.make 90 [(.string (.mk (.mk []))), (.slice none 0 0), (.int .i64 (.ofNat 0))] 3 48 (t 6)), s 3 (.mv (t 7))]) (.seq (.seq (.region false [s 4 (.mv (.const (.int .i64 0)))]) (.block 0 (.loop (.seq (.seq (.region false [s 8 (.mv (t 4)), s 9 (.mv (t 0)), s 10 (.len false (t 9)), s 11 (.bin .lss (t 8) (t 10))]) (.cond (t 11) .skip (.exit 0))) (.seq (.block 1 (.region false [s 14 (.mv (t 3)), s 15 (.mv (t 4)), s 16 (.mv (t 0)), s 17 (.mv (t 4)), s 18 (.iadr 3 (t 16) (t 17)), s 19 (.load true 3 (t 18)), s 20 (.call 58 [(t 19)]), s 21 (.iadr 3 (t 14) (t 15)), ⟨none, none, (.store 3 (t 21) (t 20))⟩])) (.region false [s 12 (.mv (t 4)), s 13 (.bin .add (t 12) (.const (.int .i64 1))), s 4 (.mv (t 13))])))))) (.seq (.region false [s 22 (.mv (t 3)), s 2 (.mv (t 22))]) .ret))))
def toStampS.keep : List Nat := [0, 2, 3, 4]
def toStampS.res : List RRes := [.tmp 2]
theorem toStampS.of {mo : Bool} {args : List AV} {r : AV} {frs : Fr} (hn : Nat.ble args.length Try.f16.ntmps = true) (h : aCode (Kn mo Try.prog) toStampS.keep 0 toStampS.code (doneK toStampS.res r frs) ⟨argEnv 0 args, [], []⟩) : Abs.Ret mo Try.prog 16 args r frs :=
  Abs.Ret.of_ir Try.func16 rfl (by kernel_rfl) (Nat.le_of_ble_eq_true hn) (by kernel_rfl) (by kernel_rfl) h
abbrev toStampS.Own (args : List AV) (x : Tr) : Prop := Abs.Own true Try.prog 16 args x
abbrev toStampS.Ret (args : List AV) (r : AV) (frs : Fr) : Prop := Abs.Ret true Try.prog 16 args r frs
def toStringS.code : ACode := (.seq (.region false [s 2 (.mv (.const (.slice none 0 0)))]) (.seq (.region false [s 5 (.mv (t 0)), s 6 (.len false (t 5)), s 7 (.make 9 [(.string (.mk (.mk [])))] 1 16 (t 6)), s 3 (.mv (t 7))]) (.seq (.seq (.region false [s 4 (.mv (.const (.int .i64 0)))]) (.block 0 (.loop (.seq (.seq (.region false [s 8 (.mv (t 4)), s 9 (.mv (t 0)), s 10 (.len false (t 9)), s 11 (.bin .lss (t 8) (t 10))]) (.cond (t 11) .skip (.exit 0))) (.seq (.block 1 (.region false [s 14 (.mv (t 3)), s 15 (.mv (t 4)), s 16 (.mv (t 0)), s 17 (.mv (t 4)), s 18 (.iadr 1 (t 16) (t 17)), s 19 (.load false 1 (t 18)), s 20 (.iadr 1 (t 14) (t 15)), ⟨none, none, (.store 1 (t 20) (t 19))⟩])) (.region false [s 12 (.mv (t 4)), s 13 (.bin .add (t 12) (.const (.int .i64 1))), s 4 (.mv (t 13))])))))) (.seq (.region false [s 21 (.mv (t 3)), s 2 (.mv (t 21))]) .ret))))
def toStringS.keep : List Nat := [0, 2, 3, 4]
def toStringS.res : List RRes := [.tmp 2]
theorem toStringS.of {mo : Bool} {args : List AV} {r : AV} {frs : Fr} (hn : Nat.ble args.length Try.f69.ntmps = true) (h : aCode (Kn mo Try.prog) toStringS.keep 0 toStringS.code (doneK toStringS.res r frs) ⟨argEnv 0 args, [], []⟩) : Abs.Ret mo Try.prog 69 args r frs :=
  Abs.Ret.of_ir Try.func69 rfl (by kernel_rfl) (Nat.le_of_ble_eq_true hn) (by kernel_rfl) (by kernel_rfl) h
abbrev toStringS.Ret (args : List AV) (r : AV) (frs : Fr) : Prop := Abs.Ret true Try.prog 69 args r frs
end Go.Proofs.Ytplfkocigmnpmaa
namespace Go.Proofs.Ytplfkocigmnpmaa
open Abs
def part (z : List AV) (xs : List (List AV)) (i : Nat) : List AV := (xs.take i).flatten ++ (List.replicate (xs.length - i) z).flatten
theorem setAt_mid {α : Type} : ∀ (x a b c : List α), b.length = x.length → setAt (a ++ b ++ c) a.length x = a ++ x ++ c
  | [], a, b, c, h => by cases b with
    | nil => rfl
    | cons _ _ => simp at h
  | y :: x, a, b, c, h => by
    cases b with
    | nil => simp at h
    | cons b0 b =>
      have h1 : (a ++ b0 :: b ++ c).set a.length y = (a ++ [y]) ++ b ++ c := by simp
      have h2 : a.length + 1 = (a ++ [y]).length := by simp
      rw [setAt, h1, h2, setAt_mid x (a ++ [y]) b c (by simpa using h)]
      simp
theorem part_set {z : List AV} {xs : List (List AV)} {i sz : Nat} (hz : z.length = sz) (hx : ∀ x ∈ xs, x.length = sz) {x : List AV} (hi : xs[i]? = some x) : setAt (part z xs i) (i * sz) x = part z xs (i + 1) := by
  have hlt := getElem?_lt hi
  have h1 : (xs.take i).flatten.length = i * sz := by rw [length_flatten' sz _ (fun x h => hx x (List.mem_of_mem_take h)), List.length_take]; congr 1; omega
  obtain ⟨k, hk⟩ : ∃ k, xs.length - i = k + 1 := ⟨xs.length - i - 1, by omega⟩
  have hk2 : xs.length - (i + 1) = k := by omega
  have h2 : part z xs i = (xs.take i).flatten ++ z ++ (List.replicate k z).flatten := by
    rw [part, hk, List.replicate_succ, List.flatten_cons, List.append_assoc]
  have h3 : xs.take (i + 1) = xs.take i ++ [x] := by rw [List.take_add_one, hi]; rfl
  rw [h2, ← h1, setAt_mid _ _ _ _ (by rw [hz, hx x (List.mem_of_getElem? hi)]), part, hk2, h3]
  simp
theorem part_made {z : List Value} {xs : List (List AV)} {sz m : Nat} (hz : z.length = sz) (hp : 0 < sz) (hm : m = xs.length * sz) : madeK z m = part (z.map constAV) xs 0 := by
  subst hm
  have h1 : (List.replicate xs.length (z.map constAV)).flatten.length = xs.length * sz := by rw [length_flatten' sz]; · simp
                                                                                             · intro x hx; rw [List.eq_of_mem_replicate hx]; simp [hz]
  apply List.ext_getElem?
  intro i
  by_cases hi : i < xs.length * sz
  · have hq : i / sz < xs.length := (Nat.div_lt_iff_lt_mul hp).2 hi
    have hr : i % sz < sz := Nat.mod_lt _ hp
    have hf := flatten_get sz (List.replicate xs.length (z.map constAV)) (i / sz) (i % sz) (z.map constAV) (constAV (z.getD (i % sz) undef)) (fun x hx => by rw [List.eq_of_mem_replicate hx]; simp [hz]) (by simp [hq]) (by simp [hz, hr, List.getD])
    rw [show i / sz * sz + i % sz = i by rw [Nat.mul_comm]; exact Nat.div_add_mod _ _] at hf
    simp only [part, List.take_zero, List.flatten_nil, List.nil_append, Nat.sub_zero]
    rw [hf, madeK]
    simp [hi, hz]
  · rw [List.getElem?_eq_none (by simp [madeK]; omega)]
    simp only [part, List.take_zero, List.flatten_nil, List.nil_append, Nat.sub_zero]
    rw [List.getElem?_eq_none (by rw [h1]; omega)]
theorem part_all (z : List AV) (xs : List (List AV)) : part z xs xs.length = xs.flatten := by simp [part]
theorem part_len {z : List AV} {xs : List (List AV)} {i sz : Nat} (hz : z.length = sz) (hx : ∀ x ∈ xs, x.length = sz) (hi : i ≤ xs.length) : (part z xs i).length = xs.length * sz := by
  rw [part, List.length_append, length_flatten' sz _ (fun x h => hx x (List.mem_of_mem_take h)), length_flatten' sz _ (fun x h => by rw [List.eq_of_mem_replicate h]; exact hz), List.length_take, List.length_replicate, ← Nat.add_mul]
  congr 1; omega
theorem strs_get {l : List Str} {i : Nat} (hi : i < l.length) : (strs l)[i]? = some [.str (l.getD i [])] := by simp [strs_eq, List.getD, hi]
theorem toStringS.ret (l : List Str) (hl : l.length ≤ 1048576) : toStringS.Ret [.list none (strs l)] (.list (some 0) (strs l)) [(9, 1, l.length)] := by
  refine toStringS.of rfl ?_
  repeat' first
    | (conv => whnf
       first | refine Need.fin ?_)
  refine ALoop.mk Nat (fun i => ⟨[(0, .list none (strs l)), (3, .bsl 0 l.length), (4, .val (.int .i64 i))], [.cells (.row 9 1) (part [.str []] (strs l) i)], []⟩) (fun i => i ≤ l.length) (fun i => l.length - i) ⟨0, Nat.zero_le _, ?_⟩ (fun i hi => ?_)
  · repeat' first
      | exact trivial | refine Weak.mk ?_ ?_ ?_ ?_ (Or.inl (Nat.le_of_ble_eq_true rfl)) | refine And.intro ?_ ?_ | with_reducible rfl | exact Nat.le_of_ble_eq_true rfl | refine AV.int_congr ?_ | refine AV.list_congr ?_ | refine AV.bsl_congr ?_ ?_ | (apply rfl)
    · simp
    · simp only [List.nil_append, List.length_cons, List.length_nil, List.take_succ_cons, List.take_zero]
      rw [part_made (xs := strs l) (sz := 1) rfl (by decide) (by simp)]; rfl
  repeat' first
    | (conv => whnf
       first | refine Need.mk rfl ?_ | refine Need.fin ?_ | refine Need.mk ?_ ?_ | refine Ix.strsF rfl ?_ | refine Fork.dec (fun _ => ?_) (fun _ => ?_) | refine Round.mk ?_ | refine LitO.own rfl ?_)
  · rename_i h
    rw [length_strs] at h
    rw [part_len (sz := 1) rfl (strs_sz l) (by simp; exact hi), Int.toNat_natCast, length_strs]
    exact ⟨rfl, by omega⟩
  · rename_i h
    rw [length_strs] at h
    refine ⟨i + 1, by omega, ?_, by omega⟩
    repeat' first
      | exact trivial | refine Weak.mk ?_ ?_ ?_ ?_ (Or.inl (Nat.le_of_ble_eq_true rfl)) | refine And.intro ?_ ?_ | with_reducible rfl | exact Nat.le_of_ble_eq_true rfl | refine AV.int_congr ?_ | refine AV.list_congr ?_ | refine AV.bsl_congr ?_ ?_
    · rw [wrap64 (by omega) (by omega)]; rfl
    · simp only [Int.toNat_natCast]
      have := part_set (z := [.str []]) (sz := 1) rfl (strs_sz l) (strs_get (l := l) (i := i) (by omega))
      simp only [List.set_cons_zero, List.take_succ_cons, List.take_zero, List.length_cons, List.length_nil, this]
  · rename_i h
    rw [length_strs] at h
    conv => whnf
    have : i = l.length := by omega
    subst this
    refine FreezeD.flat (Freeze.mk (strs l) _ 9 1 rfl (by have := part_all [.str []] (strs l); rwa [length_strs] at this) (by simp) (strs_sz l) (fun c hc => ?_) ?_)
    · have e := part_all [.str []] (strs l)
      rw [length_strs] at e
      rw [e, List.mem_flatten] at hc
      obtain ⟨x, hx, hc⟩ := hc
      rw [strs_eq] at hx
      obtain ⟨s, _, rfl⟩ := List.mem_map.1 hx
      simp at hc; subst hc; rfl
    · exact Final.mk rfl rfl
theorem eqStringS.ret (l m : List Str) (hl : l.length ≤ 1099511627776) : eqStringS.Ret [.list none (strs l), .list none (strs m)] (.val (.bool (decide (l = m)))) [] := by
  refine eqStringS.of rfl ?_
  repeat' first
    | (conv => whnf
       first | refine Need.mk rfl ?_ | refine Fork.bne (fun _ => ?_) (fun _ => ?_) | refine LitO.own rfl ?_ | refine FinVal.keep ?_ | refine Final.mk ?_ rfl)
    | refine AV.bool_congr ?_
  · rename_i h
    rw [length_strs, length_strs] at h
    have h3 : ¬ l = m := fun e => h (by rw [e])
    simp [h3]
  rename_i h
  rw [length_strs, length_strs] at h
  have h : l.length = m.length := by omega
  skip
  refine ALoop.mk Nat (fun i => ⟨[(0, .list none (strs l)), (1, .list none (strs m)), (5, .val (.int .i64 i))], [], []⟩) (fun i => i ≤ l.length ∧ l.take i = m.take i) (fun i => l.length - i) ⟨0, ⟨Nat.zero_le _, rfl⟩, ?_⟩ (fun i hi => ?_)
  · repeat' first
      | exact trivial | refine Weak.mk ?_ ?_ ?_ ?_ (Or.inl (Nat.le_of_ble_eq_true rfl)) | refine And.intro ?_ ?_ | with_reducible rfl | exact Nat.le_of_ble_eq_true rfl | refine AV.int_congr ?_ | refine AV.list_congr ?_ | (apply rfl)
  repeat' first
    | (conv => whnf
       first | refine Need.mk rfl ?_ | refine Ix.strsF rfl ?_ | refine Fork.dec (fun _ => ?_) (fun _ => ?_) | refine Fork.sne (fun _ => ?_) (fun _ => ?_) | refine Round.mk ?_ | refine LitO.own rfl ?_ | refine FinVal.keep ?_ | refine Final.mk ?_ rfl)
    | refine AV.bool_congr ?_
  · rename_i h1 h2
    have h3 : ¬ l = m := fun e => h2 (by rw [e])
    simp [h3]
  · rename_i h1 h2
    rw [length_strs] at h1
    refine ⟨i + 1, ⟨by omega, ?_⟩, ?_, by omega⟩
    · rw [take_succ' [] (by omega), take_succ' (l := m) [] (by omega), hi.2]
      rw [Int.toNat_natCast] at h2
      have h2' : l.getD i [] = m.getD i [] := h2
      rw [h2']
    · repeat' first
        | exact trivial | refine Weak.mk ?_ ?_ ?_ ?_ (Or.inl (Nat.le_of_ble_eq_true rfl)) | refine And.intro ?_ ?_ | with_reducible rfl | exact Nat.le_of_ble_eq_true rfl | refine AV.int_congr ?_ | refine AV.list_congr ?_ | (apply rfl)
      rw [wrap64 (by omega) (by omega)]; rfl
  · rename_i h1
    rw [length_strs] at h1
    have h2 := hi.2
    rw [List.take_of_length_le (by omega), List.take_of_length_le (by omega)] at h2
    simp [h2]
def szL : List Str → Nat
  | [] => 0
  | s :: l => s.length + szL l
def szT (l : List Str) : Nat := l.length + szL l
theorem szL_take_succ {l : List Str} {i : Nat} (hi : i < l.length) : szL (l.take (i + 1)) = szL (l.take i) + (l.getD i []).length := by
  induction l generalizing i with
  | nil => simp at hi
  | cons s l ih =>
    cases i with
    | zero => simp [szL]
    | succ i => simp only [List.take_succ_cons, szL, ih (show i < l.length by simpa using hi)]; simp [Nat.add_assoc]
theorem szL_le_take (l : List Str) (i : Nat) : szL (l.take i) ≤ szL l := by
  induction l generalizing i with
  | nil => simp [szL]
  | cons s l ih => cases i with
    | zero => simp [szL]
    | succ i => simp only [List.take_succ_cons, szL]; have := ih i; omega
/-- what is left of a, or -1 -/
def left (a : Int) (n : Nat) : Int := if a - n < 0 then -1 else a - n
theorem left_eq {a : Int} {n : Nat} {x : Int} (h : (x = -1 ∧ a < n) ∨ (x = a - n ∧ ¬ a < n)) : x = left a n := by unfold left; split <;> omega
theorem szStringS.ret (l : List Str) (a : Int) (h0 : 0 ≤ a) (ha : a ≤ 1048576) (hl : l.length ≤ 9223372036854775807) (hs : ∀ s ∈ l, s.length ≤ 9223372036854775807) :
    szStringS.Ret [.list none (strs l), .val (.int .i64 a)] (.val (.int .i64 (left a (szT l)))) [] := by
  refine szStringS.of rfl ?_
  have hw : IntKind.i64.wrap (a - ((strs l).length : Int)) = a - l.length := by rw [length_strs]; exact wrap64 (by omega) (by omega)
  repeat' first
    | (conv => whnf
       first | refine Need.mk rfl ?_ | refine Fork.dec (fun _ => ?_) (fun _ => ?_) | refine LitO.own rfl ?_ | refine FinVal.keep ?_ | refine Final.mk ?_ rfl)
    | refine AV.int_congr ?_
  · rename_i h
    rw [hw] at h
    rw [left, if_pos (by unfold szT; omega)]
  rename_i h
  rw [hw] at h
  skip
  refine ALoop.mk Nat (fun i => ⟨[(0, .list none (strs l)), (1, .val (.int .i64 (a - l.length - szL (l.take i)))), (5, .val (.int .i64 i))], [], []⟩) (fun i => i ≤ l.length ∧ (0 : Int) ≤ a - l.length - szL (l.take i)) (fun i => l.length - i) ⟨0, ⟨Nat.zero_le _, by simp [szL]; omega⟩, ?_⟩ (fun i hi => ?_)
  · repeat' first
      | exact trivial | refine Weak.mk ?_ ?_ ?_ ?_ (Or.inl (Nat.le_of_ble_eq_true rfl)) | refine And.intro ?_ ?_ | with_reducible rfl | exact Nat.le_of_ble_eq_true rfl | refine AV.int_congr ?_ | refine AV.list_congr ?_ | (apply rfl)
    rw [hw]; simp [szL]
  obtain ⟨hp1, hp2⟩ := hi
  have hg : ∀ i, (l.getD i []).length ≤ 9223372036854775807 := fun i => by
    rcases Nat.lt_or_ge i l.length with h | h
    · simp only [List.getD, List.getElem?_eq_getElem h, Option.getD_some]; exact hs _ (List.getElem_mem h)
    · simp [List.getD, List.getElem?_eq_none h]
  repeat' first
    | (conv => whnf
       first | refine Need.mk rfl ?_ | refine Ix.strsF rfl ?_ | refine Fork.dec (fun _ => ?_) (fun _ => ?_) | refine Round.mk ?_ | refine LitO.own rfl ?_ | refine FinVal.keep ?_ | refine Final.mk ?_ rfl)
    | refine AV.int_congr ?_
  · rename_i h1 h2
    rw [length_strs] at h1
    have h4 := hg i
    have h3 := szL_take_succ (l := l) (i := i) (by omega)
    have h5 := szL_le_take l (i + 1)
    change IntKind.i64.wrap (a - ↑l.length - ↑(szL (l.take i)) - ((l.getD i []).length : Int)) < 0 at h2
    rw [wrap64 (by omega) (by omega)] at h2
    rw [left, if_pos (by unfold szT; omega)]
  · rename_i h1 h2
    rw [length_strs] at h1
    have h4 := hg i
    have h3 := szL_take_succ (l := l) (i := i) (by omega)
    change ¬ IntKind.i64.wrap (a - ↑l.length - ↑(szL (l.take i)) - ((l.getD i []).length : Int)) < 0 at h2
    rw [wrap64 (by omega) (by omega)] at h2
    refine ⟨i + 1, ⟨by omega, by omega⟩, ?_, by omega⟩
    repeat' first
      | exact trivial | refine Weak.mk ?_ ?_ ?_ ?_ (Or.inl (Nat.le_of_ble_eq_true rfl)) | refine And.intro ?_ ?_ | with_reducible rfl | exact Nat.le_of_ble_eq_true rfl | refine AV.int_congr ?_ | refine AV.list_congr ?_ | (apply rfl)
    · change IntKind.i64.wrap (a - ↑l.length - ↑(szL (l.take i)) - ((l.getD i []).length : Int)) = _
      rw [wrap64 (by omega) (by omega)]; omega
    · rw [wrap64 (by omega) (by omega)]; rfl
  · rename_i h1
    rw [length_strs] at h1
    rw [List.take_of_length_le (by omega)] at hp2 ⊢
    rw [left, if_neg (by unfold szT; omega)]; unfold szT; omega
end Go.Proofs.Ytplfkocigmnpmaa
namespace Go.Proofs.Ytplfkocigmnpmaa
open Abs
def digs : Nat → Nat → Str → Str
  | 0, _, a => a
  | n + 1, k, a => if k = 0 then a else digs n (k / 10) (UInt8.ofNat (48 + k % 10) :: a)
theorem digs_fuel : ∀ (n m k : Nat) (a : Str), k ≤ n → k ≤ m → digs n k a = digs m k a
  | 0, 0, _, _, _, _ => rfl
  | 0, m + 1, k, a, h, _ => by have : k = 0 := by omega
                               subst this; rfl
  | n + 1, 0, k, a, _, h => by have : k = 0 := by omega
                               subst this; rfl
  | n + 1, m + 1, k, a, h, h' => by
    simp only [digs]
    split
    · rfl
    · exact digs_fuel n m _ _ (by omega) (by omega)
theorem digs_step {k : Nat} (a : Str) (h : 0 < k) : digs k k a = digs (k / 10) (k / 10) (UInt8.ofNat (48 + k % 10) :: a) := by
  obtain ⟨n, rfl⟩ : ∃ n, k = n + 1 := ⟨k - 1, by omega⟩
  rw [digs, if_neg (by omega)]
  exact digs_fuel _ _ _ _ (by omega) (by omega)
@[irreducible] def markF (k : Nat) : Str := if k = 0 then [109, 48] else 109 :: digs k k []
theorem markText.ret (k : Nat) (hk : k ≤ 1099511627775) : markText.Ret [.val (.int .i64 k)] (.str (markF k)) [] := by
  refine markText.ofS rfl rfl ?_
  repeat' first
    | (conv => whnf
       first | refine Need.mk rfl ?_ | refine Fork.dec (fun _ => ?_) (fun _ => ?_) | refine LitO.own rfl ?_ | refine Final.mk ?_ rfl)
    | refine AV.str_congr ?_
  · rename_i h
    have : k = 0 := by omega
    subst this; unfold markF; rfl
  rename_i h
  skip
  refine ALoop.mk (Nat × Str × Fr) (fun p => ⟨[(0, .val (.int .i64 p.1)), (3, .str p.2.1)], [], p.2.2⟩) (fun p => digs p.1 p.1 p.2.1 = digs k k [] ∧ p.2.1.length + p.1 ≤ k) (fun p => p.1) ⟨(k, [], []), ⟨rfl, by simp⟩, ?_⟩ (fun p hp => ?_)
  · repeat' first
      | exact trivial | refine Weak.mk ?_ ?_ ?_ ?_ (Or.inl (Nat.le_of_ble_eq_true rfl)) | refine And.intro ?_ ?_ | with_reducible rfl | exact Nat.le_of_ble_eq_true rfl | refine AV.int_congr ?_ | refine AV.str_congr ?_ | (apply rfl)
  obtain ⟨hp1, hp2⟩ := hp
  repeat' first
    | (conv => whnf
       first | refine Need.mk rfl ?_ | refine Need.fin ?_ | refine Need.mk ?_ ?_ | refine Fork.dec (fun _ => ?_) (fun _ => ?_) | refine LitO.own rfl ?_ | refine Final.mk ?_ rfl)
    | refine AV.str_congr ?_
  · refine ⟨[UInt8.ofNat (48 + p.1 % 10)], ?_, ?_⟩
    · rename_i h1
      have e1 : ((p.1 : Int).tmod 10) = ((p.1 % 10 : Nat) : Int) := (Int.ofNat_tmod p.1 10).symm
      have e2 : IntKind.i64.wrap (48 + (p.1 : Int).tmod 10) = ((48 + p.1 % 10 : Nat) : Int) := by rw [e1, wrap64 (by omega) (by omega)]; omega
      have e3 : IntKind.u8.wrap (((48 + p.1 % 10 : Nat)) : Int) = ((48 + p.1 % 10 : Nat) : Int) := by
        have := Go.IntWalk.u8_in ((48 + p.1 % 10 : Nat) : Int) ⟨by omega, by omega⟩
        exact this
      rw [e2, e3]
      simp [byteCell]
      omega
    repeat' first
      | (conv => whnf
         first | refine Need.mk rfl ?_ | refine Need.fin ?_ | refine Need.mk ?_ ?_ | refine Round.mk ?_ | refine LitO.own rfl ?_)
    · rename_i h1
      simp; omega
    · rename_i h1
      refine ⟨(p.1 / 10, UInt8.ofNat (48 + p.1 % 10) :: p.2.1, p.2.2 ++ [(5, 1, 1)]), ⟨by rw [← digs_step _ (by omega)]; exact hp1, by simp only [List.length_cons]; omega⟩, ?_, by show p.1 / 10 < p.1; omega⟩
      repeat' first
        | exact trivial | refine Weak.mk ?_ ?_ ?_ ?_ (Or.inl (Nat.le_of_ble_eq_true rfl)) | refine And.intro ?_ ?_ | exact Nat.le_of_ble_eq_true rfl | refine AV.int_congr ?_ | refine AV.str_congr ?_ | (apply rfl)
      have e4 : ((p.1 : Int).tdiv 10) = ((p.1 / 10 : Nat) : Int) := (Int.ofNat_tdiv p.1 10).symm
      rw [e4, wrap64 (by omega) (by omega)]
  · rename_i h1
    have : p.1 = 0 := by omega
    rw [this] at hp1
    show 1 + p.2.1.length ≤ 1099511627776
    omega
  · rename_i h1
    have : p.1 = 0 := by omega
    rw [this] at hp1
    have e : p.2.1 = digs k k [] := hp1
    unfold markF; rw [if_neg (by omega), ← e]; rfl
def markL (n k : Nat) : List Str := (List.range n).map fun i => markF (k + i)
@[simp] theorem length_markL (n k : Nat) : (markL n k).length = n := by simp [markL]
theorem markL_get {n k i : Nat} (hi : i < n) : (markL n k)[i]? = some (markF (k + i)) := by simp [markL, hi]
theorem gvLL_sq : ∀ (l : List Str) (n : Nat), gvLL (l.map sq) n = l.map AV.str
  | [], _ => rfl
  | s :: l, n => by simp [gvLL, sq, gvL, gv, gvLL_sq l]
theorem gbLL_sq : ∀ (l : List Str) (n : Nat), gbLL (l.map sq) n = []
  | [], _ => rfl
  | s :: l, n => by simp [gbLL, sq, gbL, gb, gbLL_sq l]
theorem nbLL_sq : ∀ (l : List Str), nbLL (l.map sq) = 0
  | [] => rfl
  | s :: l => by simp [nbLL, sq, nbL, nb, nbLL_sq l]
def strT (l : List Str) : Tr := .l 9 1 (l.map sq)
theorem gb_strT (l : List Str) (n : Nat) : gb (strT l) n = [.cells (.row 9 1) (l.map AV.str)] := by rw [strT, gb, gvLL_sq, gbLL_sq]
theorem gv_strT (l : List Str) (n : Nat) : gv (strT l) n = .bsl n l.length := by rw [strT, gv, List.length_map]
theorem nb_strT (l : List Str) : nb (strT l) = 1 := by rw [strT, nb, nbLL_sq]
theorem mix_set {l m : List Str} {i : Nat} {x : Str} (hi : i < l.length) (hl : m.length = l.length) (hx : m[i]? = some x) :
    ((m.take i ++ l.drop i).map AV.str).set i (.str x) = (m.take (i + 1) ++ l.drop (i + 1)).map AV.str := by
  have h1 : l.drop i = l[i] :: l.drop (i + 1) := List.drop_eq_getElem_cons hi
  have h2 : m.take (i + 1) = m.take i ++ [x] := by rw [List.take_add_one, hx]; rfl
  have h3 : (m.take i).length = i := by simp; omega
  rw [h1, h2, List.map_append, List.set_append_right _ _ (by rw [List.length_map, h3]; exact Nat.le_refl _), List.length_map, h3, Nat.sub_self, List.map_cons, List.set_cons_zero, List.map_append, List.map_append, List.append_assoc]
  rfl
theorem markStringS.turn (l : List Str) (k : Nat) (hk : k + l.length ≤ 1099511627775) : markStringS.Turn (gb (strT l) 0) [gv (strT l) 0, .val (.int .i64 k)] (.val (.int .i64 ((k + l.length : Nat)))) (gb (strT (markL l.length k)) 0) := by
  refine markStringS.ofT rfl rfl (by rw [length_gb, nb_strT, nb_strT]) ?_
  rw [gb_strT, gb_strT, gv_strT]
  skip
  refine ALoop.mk Nat (fun i => ⟨[(0, .bsl 0 l.length), (1, .val (.int .i64 (k + i : Nat))), (5, .val (.int .i64 i))], [.cells (.row 9 1) (((markL l.length k).take i ++ l.drop i).map AV.str)], []⟩) (fun i => i ≤ l.length) (fun i => l.length - i) ⟨0, Nat.zero_le _, ?_⟩ (fun i hi => ?_)
  · repeat' first
      | exact trivial | refine Weak.mk ?_ ?_ ?_ ?_ (Or.inl (Nat.le_of_ble_eq_true rfl)) | refine And.intro ?_ ?_ | with_reducible rfl | exact Nat.le_of_ble_eq_true rfl | refine AV.int_congr ?_ | refine AV.bsl_congr ?_ ?_ | (apply rfl)
  repeat' first
    | (conv => whnf
       first | refine Need.mk rfl ?_ | refine Need.fin ?_ | refine Need.mk ?_ ?_ | refine Fork.dec (fun _ => ?_) (fun _ => ?_) | refine Round.mk ?_ | refine LitO.own rfl ?_ | refine FinalT.mk ?_ ?_ | refine ACall.scalA _ _ (markText.ret _ ?_) rfl ?_)
    | refine AV.int_congr ?_
  · omega
  · rename_i h
    simp; omega
  · rename_i h
    refine ⟨i + 1, by omega, ?_, by omega⟩
    repeat' first
      | exact trivial | refine Weak.mk ?_ ?_ ?_ ?_ (Or.inl (Nat.le_of_ble_eq_true rfl)) | refine And.intro ?_ ?_ | with_reducible rfl | exact Nat.le_of_ble_eq_true rfl | refine AV.int_congr ?_ | refine AV.bsl_congr ?_ ?_
    · rw [wrap64 (by omega) (by omega)]; omega
    · rw [wrap64 (by omega) (by omega)]; rfl
    · have := mix_set (l := l) (m := markL l.length k) (i := i) (by omega) (by simp) (markL_get (by omega))
      simp only [Int.toNat_natCast, Nat.mul_one, setAt, List.set_cons_zero, List.take_succ_cons, List.take_zero, List.length_cons, List.length_nil, this]
  · rename_i h
    omega
  · rename_i h
    have : i = l.length := by omega
    subst this
    simp
    rw [List.take_of_length_le (by simp)]
@[irreducible] def heldL (l : List Str) (k : Nat) : Int := if l = markL l.length k then ((k + l.length : Nat) : Int) else -1
theorem heldStringS.ret (l : List Str) (k : Nat) (hk : k + l.length ≤ 1099511627775) : heldStringS.Ret [.list none (strs l), .val (.int .i64 k)] (.val (.int .i64 (heldL l k))) [] := by
  refine heldStringS.ofS rfl rfl ?_
  skip
  refine ALoop.mk Nat (fun i => ⟨[(0, .list none (strs l)), (1, .val (.int .i64 (k + i : Nat))), (5, .val (.int .i64 i))], [], []⟩) (fun i => i ≤ l.length ∧ l.take i = (markL l.length k).take i) (fun i => l.length - i) ⟨0, ⟨Nat.zero_le _, rfl⟩, ?_⟩ (fun i hi => ?_)
  · repeat' first
      | exact trivial | refine Weak.mk ?_ ?_ ?_ ?_ (Or.inl (Nat.le_of_ble_eq_true rfl)) | refine And.intro ?_ ?_ | with_reducible rfl | exact Nat.le_of_ble_eq_true rfl | refine AV.int_congr ?_ | refine AV.list_congr ?_ | (apply rfl)
  obtain ⟨hi, ht⟩ := hi
  repeat' first
    | (conv => whnf
       first | refine Need.mk rfl ?_ | refine Ix.strsF rfl ?_ | refine Fork.dec (fun _ => ?_) (fun _ => ?_) | refine Fork.sne (fun _ => ?_) (fun _ => ?_) | refine Round.mk ?_ | refine LitO.own rfl ?_ | refine FinVal.keep ?_ | refine Final.mk ?_ rfl | refine AQCall.mkA _ _ (fun hg => markText.ret _ ?_) rfl ?_)
    | refine AV.int_congr ?_
  · omega
  · rename_i h1 h2
    rw [length_strs] at h1
    have h3 : ¬ l = markL l.length k := fun e => h2 (by
      have := markL_get (n := l.length) (k := k) (i := i) (by omega)
      rw [← e] at this
      show l.getD (i : Int).toNat [] = _
      rw [Int.toNat_natCast, List.getD, this]; rfl)
    unfold heldL; rw [if_neg h3]
  · rename_i h1 h2
    rw [length_strs] at h1
    change l.getD (i : Int).toNat [] = markF (k + i) at h2
    rw [Int.toNat_natCast] at h2
    refine ⟨i + 1, ⟨by omega, ?_⟩, ?_, by omega⟩
    · rw [take_succ' [] (by omega), ht, h2, List.take_add_one, markL_get (by omega)]; rfl
    · repeat' first
        | exact trivial | refine Weak.mk ?_ ?_ ?_ ?_ (Or.inl (Nat.le_of_ble_eq_true rfl)) | refine And.intro ?_ ?_ | with_reducible rfl | exact Nat.le_of_ble_eq_true rfl | refine AV.int_congr ?_ | refine AV.list_congr ?_ | (apply rfl)
      · rw [wrap64 (by omega) (by omega)]; omega
      · rw [wrap64 (by omega) (by omega)]; rfl
  · rename_i h1
    rw [length_strs] at h1
    have e : l = markL l.length k := by
      have := ht
      rwa [List.take_of_length_le (by omega), List.take_of_length_le (by simp; omega)] at this
    have : i = l.length := by omega
    unfold heldL; rw [if_pos e, this]
end Go.Proofs.Ytplfkocigmnpmaa
namespace Go.Proofs.Ytplfkocigmnpmaa
open Abs
def tStrs : Ty (List Str) := Ty.plain 9 Ty.str (fun _ => rfl) (fun _ => rfl)
abbrev Fct := Str × List Str
def tFct : Ty Fct := Ty.pair Ty.str tStrs
abbrev facts (l : List Fct) : List (List AV) := rows tFct l
theorem szT_eq (l : List Str) : szT l = tStrs.size l := by
  show szT l = l.length + listSize Ty.str l
  unfold szT
  congr 1
  induction l with
  | nil => rfl
  | cons s l ih => simp only [szL, listSize, ih]; rfl
theorem Abs.ACall.mkStrs {C : Con} {lend : Bool} {f : Nat} {vs : List AV} {b : List ABox} {fr : Fr} {k : AV → List ABox → Fr → Prop} (ys : List AV) (l : List Str) (h : C.ret f ys (.list (some 0) (strs l)) [(9, 1, l.length)]) (hv : SeesL Sees0 vs ys)
    (hk : k (.list (some fr.length) (strs l)) b (fr ++ [(9, 1, l.length)])) : ACall C lend f vs b fr k :=
  ACall.mkV tStrs ys l (fun n => .list (some n) (strs l)) (fun _ => rfl) h hv hk
theorem Abs.ACall.mkFct {C : Con} {lend : Bool} {f : Nat} {vs : List AV} {b : List ABox} {fr : Fr} {k : AV → List ABox → Fr → Prop} (ys : List AV) (a : Fct) (h : C.ret f ys (.agg (tFct.tk a 0)) (tFct.fr a)) (hv : SeesL Sees0 vs ys)
    (hk : k (.agg (tFct.tk a fr.length)) b (fr ++ tFct.fr a)) : ACall C lend f vs b fr k := ACall.mkA tFct ys a h hv hk
theorem tFct_size (f : Fct) : tFct.size f = f.1.length + tStrs.size f.2 := rfl
theorem tStrs_size (l : List Str) : tStrs.size l = l.length + listSize Ty.str l := rfl
theorem toFact.ret (f : Fct) (h : tFct.size f ≤ 1048576) : toFact.Ret [.agg (oldL (tFct.q f))] (.agg (tFct.tk f 0)) (tFct.fr f) := by
  refine toFact.of rfl ?_
  rw [tFct_size, tStrs_size] at h
  repeat' first
    | (conv => whnf
       first | refine Need.mk ⟨rfl, Nat.le_of_ble_eq_true rfl⟩ ?_ | refine Need.mk (Nat.le_of_ble_eq_true rfl) ?_ | refine FinAgg.keep ?_ | refine Final.mk rfl rfl | refine ACall.mkStrs _ _ (toStringS.ret _ ?_) (by repeat' first | exact SeesL.nil | refine SeesL.cons ?_ ?_ | exact SeesB.of0 (Sees0.val _) | exact SeesB.of0 (Sees0.str _) | exact SeesB.of0 (Sees0.olds _ _) | exact SeesB.of0 (Sees0.old _) | exact SeesB.of0 (Sees0.oldagg _) | exact SeesB.of0 Sees0.nil | exact Sees0.val _ | exact Sees0.str _ | exact Sees0.olds _ _ | exact Sees0.old _ | exact Sees0.oldagg _ | exact Sees0.nil | exact SeesB.of0 (Sees0.any _) | assumption | exact sees_gv _ _ _ (by assumption) (by first | assumption | exact BoxIn.last _ _ | exact BoxIn.more (BoxIn.last _ _) _) | refine SeesB.agg ?_ | refine Sees0.agg ?_ | exact SeesB.of0 (Sees0.clo SeesL.nil SeesL.nil) | exact Sees0.clo SeesL.nil SeesL.nil | exact SeesB.of0 (Sees0.list rfl) | exact Sees0.list rfl) ?_)
  omega
theorem toFact.own (f : Fct) (h : tFct.size f ≤ 1048576) : toFact.Own [.agg (oldL (tFct.q f))] (.a (tFct.q f)) := Ty.ownA tFct (toFact.ret f h)
theorem szFact.ret (f : Fct) (a : Int) (h0 : 0 ≤ a) (ha : a ≤ 1048576) (hb : tFct.bd f) :
    szFact.Ret [.agg (oldL (tFct.q f)), .val (.int .i64 a)] (.val (.int .i64 (left a (tFct.size f)))) [] := by
  refine szFact.of rfl ?_
  obtain ⟨h1, h2, hs⟩ := hb
  have h1 : f.1.length ≤ 9223372036854775807 := h1
  have hw : IntKind.i64.wrap (a - (f.1.length : Int)) = a - f.1.length := wrap64 (by omega) (by omega)
  have hz := tFct_size f
  have hz2 := szT_eq f.2
  repeat' first
    | (conv => whnf
       first | refine Need.mk rfl ?_ | refine Fork.dec (fun _ => ?_) (fun _ => ?_) | refine LitO.own rfl ?_ | refine FinVal.keep ?_ | refine Final.mk ?_ rfl | refine ACall.scalA _ _ (szStringS.ret _ _ ?_ ?_ ?_ ?_) rfl ?_)
    | refine AV.int_congr ?_
  all_goals rw [hw] at *
  all_goals first
    | assumption
    | omega
    | (unfold left at *; rw [hz, hz2] at *; split at * <;> (try split at *) <;> (try split) <;> omega)
end Go.Proofs.Ytplfkocigmnpmaa
namespace Go.Proofs.Ytplfkocigmnpmaa
open Abs
def tFcts : Ty (List Fct) := Ty.list 44 tFct
theorem tFcts_size (l : List Fct) : tFcts.size l = l.length + listSize tFct l := rfl
theorem facts_get {l : List Fct} {i : Nat} (hi : i < l.length) : l[i]? = some (l.getD i default) := by simp [List.getD, hi]
theorem tFcts_frs_succ {l : List Fct} {i : Nat} (hi : i < l.length) : frs tFct (l.take (i + 1)) = frs tFct (l.take i) ++ tFct.fr (l.getD i default) := by
  rw [take_succ' default hi, frs_append]; simp [frs]
theorem toFactS.ret (l : List Fct) (h : tFcts.size l ≤ 1048576) : toFactS.Ret [.list none (facts l)] (.list (some (0 + (frs tFct l).length)) (tks tFct l 0)) (tFcts.fr l) := by
  refine toFactS.of rfl ?_
  rw [tFcts_size] at h
  repeat' first
    | (conv => whnf
       first | refine Need.fin ?_)
  refine ALoop.mk Nat (fun i => ⟨[(0, .list none (facts l)), (3, .bsl 0 l.length), (4, .val (.int .i64 i))], [.cells (.row 44 2) (part [.str [], .val (.slice none 0 0)] (tks tFct l 0) i)], frs tFct (l.take i)⟩) (fun i => i ≤ l.length) (fun i => l.length - i) ⟨0, Nat.zero_le _, ?_⟩ (fun i hi => ?_)
  · repeat' first
      | exact trivial | refine Weak.mk ?_ ?_ ?_ ?_ (Or.inl (Nat.le_of_ble_eq_true rfl)) | refine And.intro ?_ ?_ | with_reducible rfl | exact Nat.le_of_ble_eq_true rfl | refine AV.int_congr ?_ | refine AV.list_congr ?_ | refine AV.bsl_congr ?_ ?_ | (apply rfl)
    · simp
    · simp only [List.nil_append, List.length_cons, List.length_nil, List.take_succ_cons, List.take_zero]
      rw [part_made (xs := tks tFct l 0) (sz := 2) rfl (by decide) (by simp [length_tks])]; rfl
  repeat' first
    | (conv => whnf
       first | refine Need.mk rfl ?_ | refine Need.mk (Nat.le_of_ble_eq_true rfl) ?_ | refine Need.fin ?_ | refine Need.mk ?_ ?_ | refine Ix.mapF (fun _ => rfl) ?_ | refine Fork.dec (fun _ => ?_) (fun _ => ?_) | refine Round.mk ?_ | refine LitO.own rfl ?_ | refine ACall.mkFct _ _ (toFact.ret _ ?_) (by repeat' first | exact SeesL.nil | refine SeesL.cons ?_ ?_ | exact SeesB.of0 (Sees0.val _) | exact SeesB.of0 (Sees0.str _) | exact SeesB.of0 (Sees0.olds _ _) | exact SeesB.of0 (Sees0.old _) | exact SeesB.of0 (Sees0.oldagg _) | exact SeesB.of0 Sees0.nil | exact Sees0.val _ | exact Sees0.str _ | exact Sees0.olds _ _ | exact Sees0.old _ | exact Sees0.oldagg _ | exact Sees0.nil | exact SeesB.of0 (Sees0.any _) | assumption | exact sees_gv _ _ _ (by assumption) (by first | assumption | exact BoxIn.last _ _ | exact BoxIn.more (BoxIn.last _ _) _) | refine SeesB.agg ?_ | refine Sees0.agg ?_ | exact SeesB.of0 (Sees0.clo SeesL.nil SeesL.nil) | exact Sees0.clo SeesL.nil SeesL.nil | exact SeesB.of0 (Sees0.list rfl) | exact Sees0.list rfl) ?_)
  · rename_i h1
    rw [length_rows] at h1
    have := listSize_mem tFct (List.mem_of_getElem? (facts_get (l := l) (i := i) (by omega)))
    rw [Int.toNat_natCast]; omega
  · rename_i h1
    rw [length_rows] at h1
    rw [part_len (sz := 2) rfl (tks_sz tFct l 0) (by rw [length_tks]; exact hi), Int.toNat_natCast, length_tks]
    exact ⟨rfl, by omega⟩
  · rename_i h1
    rw [length_rows] at h1
    refine ⟨i + 1, by omega, ?_, by omega⟩
    repeat' first
      | exact trivial | refine Weak.mk ?_ ?_ ?_ ?_ (Or.inl (Nat.le_of_ble_eq_true rfl)) | refine And.intro ?_ ?_ | with_reducible rfl | exact Nat.le_of_ble_eq_true rfl | refine AV.int_congr ?_ | refine AV.list_congr ?_ | refine AV.bsl_congr ?_ ?_
    · rw [wrap64 (by omega) (by omega)]; rfl
    · have := part_set (z := [.str [], .val (.slice none 0 0)]) (sz := 2) rfl (tks_sz tFct l 0) (tks_get tFct 0 (facts_get (l := l) (i := i) (by omega)))
      rw [Nat.zero_add] at this
      simp only [List.set_cons_zero, List.take_succ_cons, List.take_zero, List.length_cons, List.length_nil, Int.toNat_natCast, this]
    · rw [tFcts_frs_succ (by omega), Int.toNat_natCast]
  · rename_i h1
    rw [length_rows] at h1
    conv => whnf
    have : i = l.length := by omega
    subst this
    have hall := part_all [.str [], .val (.slice none 0 0)] (tks tFct l 0)
    rw [length_tks] at hall
    refine FreezeD.flat (Freeze.mk (tks tFct l 0) _ 44 2 rfl hall (length_tks _ _ _) (tks_sz tFct l 0) (fun c hc => ?_) ?_)
    · rw [hall] at hc; exact tks_nr tFct l 0 c hc
    · refine Final.mk ?_ ?_
      · rw [List.take_length, Nat.zero_add]
      · rw [List.take_length]; rfl
theorem toFactS.own (l : List Fct) (h : tFcts.size l ≤ 1048576) : toFactS.Own [.list none (facts l)] (.l 44 2 (l.map tFct.q)) :=
  Ty.ownV tFcts (x := .l 44 2 (l.map tFct.q)) rfl rfl (toFactS.ret l h)
theorem szFactS.ret (l : List Fct) (a : Int) (h0 : 0 ≤ a) (ha : a ≤ 1048576) (hb : tFcts.bd l) :
    szFactS.Ret [.list none (facts l), .val (.int .i64 a)] (.val (.int .i64 (left a (tFcts.size l)))) [] := by
  refine szFactS.of rfl ?_
  obtain ⟨hl, hb⟩ := hb
  have hw : IntKind.i64.wrap (a - ((facts l).length : Int)) = a - l.length := by rw [length_rows]; exact wrap64 (by omega) (by omega)
  have hz := tFcts_size l
  repeat' first
    | (conv => whnf
       first | refine Need.mk rfl ?_ | refine Fork.dec (fun _ => ?_) (fun _ => ?_) | refine LitO.own rfl ?_ | refine FinVal.keep ?_ | refine Final.mk ?_ rfl)
    | refine AV.int_congr ?_
  · rename_i h
    rw [hw] at h
    rw [left, if_pos (by omega)]
  rename_i h
  rw [hw] at h
  skip
  refine ALoop.mk Nat (fun i => ⟨[(0, .list none (facts l)), (1, .val (.int .i64 (a - l.length - listSize tFct (l.take i)))), (5, .val (.int .i64 i))], [], []⟩) (fun i => i ≤ l.length ∧ (0 : Int) ≤ a - l.length - listSize tFct (l.take i)) (fun i => l.length - i) ⟨0, ⟨Nat.zero_le _, by simp [listSize]; omega⟩, ?_⟩ (fun i hi => ?_)
  · repeat' first
      | exact trivial | refine Weak.mk ?_ ?_ ?_ ?_ (Or.inl (Nat.le_of_ble_eq_true rfl)) | refine And.intro ?_ ?_ | with_reducible rfl | exact Nat.le_of_ble_eq_true rfl | refine AV.int_congr ?_ | refine AV.list_congr ?_ | (apply rfl)
    rw [hw]; simp [listSize]
  obtain ⟨hp1, hp2⟩ := hi
  have hle := listSize_take_le tFct l (i + 1)
  have hbi : i < l.length → tFct.bd (l.getD i default) := fun h => hb _ (List.mem_of_getElem? (facts_get h))
  have hsz : i < l.length → listSize tFct (l.take (i + 1)) = listSize tFct (l.take i) + tFct.size (l.getD i default) := fun h => listSize_take_succ tFct (facts_get h)
  repeat' first
    | (conv => whnf
       first | refine Need.mk rfl ?_ | refine Need.mk (Nat.le_of_ble_eq_true rfl) ?_ | refine Ix.mapF (fun _ => rfl) ?_ | refine Fork.dec (fun _ => ?_) (fun _ => ?_) | refine Round.mk ?_ | refine LitO.own rfl ?_ | refine FinVal.keep ?_ | refine Final.mk ?_ rfl | refine ACall.scalA _ _ (szFact.ret _ _ ?_ ?_ ?_) rfl ?_)
    | refine AV.int_congr ?_
  · exact hp2
  · omega
  · rename_i h1
    rw [length_rows] at h1
    rw [Int.toNat_natCast]; exact hbi (by omega)
  · rename_i h1 h2
    rw [length_rows] at h1
    rw [Int.toNat_natCast] at h2
    have := hsz (by omega)
    unfold left at h2 ⊢
    split at h2
    · rw [if_pos (by omega)]
    · omega
  · rename_i h1 h2
    rw [length_rows] at h1
    rw [Int.toNat_natCast] at h2
    have := hsz (by omega)
    have e : left (a - ↑l.length - ↑(listSize tFct (l.take i))) (tFct.size (l.getD i default)) = a - ↑l.length - ↑(listSize tFct (l.take (i + 1))) := by
      unfold left at h2 ⊢
      split at h2
      · omega
      · rw [if_neg ‹_›]; omega
    refine ⟨i + 1, ⟨by omega, ?_⟩, ?_, by omega⟩
    · rw [← e]; omega
    · repeat' first
        | exact trivial | refine Weak.mk ?_ ?_ ?_ ?_ (Or.inl (Nat.le_of_ble_eq_true rfl)) | refine And.intro ?_ ?_ | with_reducible rfl | exact Nat.le_of_ble_eq_true rfl | refine AV.int_congr ?_ | refine AV.list_congr ?_ | (apply rfl)
      · rw [Int.toNat_natCast]; exact e
      · rw [wrap64 (by omega) (by omega)]; rfl
  · rename_i h1
    rw [length_rows] at h1
    rw [List.take_of_length_le (by omega)] at hp2 ⊢
    rw [left, if_neg (by omega)]; omega
end Go.Proofs.Ytplfkocigmnpmaa
namespace Go.Proofs.Ytplfkocigmnpmaa
namespace Abs
mutual
/-- how many cells are marked: of a cell of an element, of its cells, of a slice's elements -/
def c1 : Tr → Nat
  | .v _ => 1
  | .s _ => 1
  | .l _ _ xs => cnLL xs
  | .a _ => 0
  | .p _ => 0
def cnC : List Tr → Nat
  | [] => 0
  | x :: xs => c1 x + cnC xs
def cnLL : List (List Tr) → Nat
  | [] => 0
  | x :: xs => cnC x + cnLL xs
end
mutual
/-- of a value: the cells in its slices -/
def cn : Tr → Nat
  | .l _ _ xs => cnLL xs
  | .a fs => cnA fs
  | .p fs => cnA fs
  | .v _ => 0
  | .s _ => 0
def cnA : List Tr → Nat
  | [] => 0
  | x :: xs => cn x + cnA xs
end
mutual
def m1 : Tr → Nat → Tr
  | .v _, k => .v (.int .i64 k)
  | .s _, k => .s (markF k)
  | .l t sz xs, k => .l t sz (mkLL xs k)
  | .a fs, _ => .a fs
  | .p fs, _ => .p fs
def mkC : List Tr → Nat → List Tr
  | [], _ => []
  | x :: xs, k => m1 x k :: mkC xs (k + c1 x)
def mkLL : List (List Tr) → Nat → List (List Tr)
  | [], _ => []
  | x :: xs, k => mkC x k :: mkLL xs (k + cnC x)
end
mutual
def mk : Tr → Nat → Tr
  | .l t sz xs, k => .l t sz (mkLL xs k)
  | .a fs, k => .a (mkA fs k)
  | .p fs, k => .p (mkA fs k)
  | .v x, _ => .v x
  | .s x, _ => .s x
def mkA : List Tr → Nat → List Tr
  | [], _ => []
  | x :: xs, k => mk x k :: mkA xs (k + cn x)
end
theorem cnC_append : ∀ xs ys, cnC (xs ++ ys) = cnC xs + cnC ys
  | [], ys => by simp [cnC]
  | x :: xs, ys => by rw [List.cons_append, cnC, cnC_append xs, cnC, Nat.add_assoc]
theorem cnLL_flatten : ∀ xs, cnLL xs = cnC xs.flatten
  | [] => rfl
  | x :: xs => by rw [cnLL, List.flatten_cons, cnC_append, cnLL_flatten xs]
theorem mkC_append : ∀ xs ys k, mkC (xs ++ ys) k = mkC xs k ++ mkC ys (k + cnC xs)
  | [], ys, k => by simp [mkC, cnC]
  | x :: xs, ys, k => by rw [List.cons_append, mkC, mkC_append xs, mkC, cnC, List.cons_append, Nat.add_assoc]
theorem mkLL_flatten : ∀ xs k, (mkLL xs k).flatten = mkC xs.flatten k
  | [], _ => rfl
  | x :: xs, k => by rw [mkLL, List.flatten_cons, List.flatten_cons, mkC_append, mkLL_flatten xs]
theorem length_mkC : ∀ xs k, (mkC xs k).length = xs.length
  | [], _ => rfl
  | x :: xs, k => by rw [mkC, List.length_cons, length_mkC xs, List.length_cons]
theorem length_mkLL : ∀ xs k, (mkLL xs k).length = xs.length
  | [], _ => rfl
  | x :: xs, k => by rw [mkLL, List.length_cons, length_mkLL xs, List.length_cons]
mutual
theorem nb_m1 : ∀ x k, nb (m1 x k) = nb x
  | .v _, _ => rfl
  | .s _, _ => rfl
  | .l t sz xs, k => by rw [m1, nb, nb, nbLL_mk xs]
  | .a _, _ => rfl
  | .p _, _ => rfl
theorem nbL_mkC : ∀ xs k, nbL (mkC xs k) = nbL xs
  | [], _ => rfl
  | x :: xs, k => by rw [mkC, nbL, nbL, nbL_mkC xs, nb_m1 x]
theorem nbLL_mk : ∀ xs k, nbLL (mkLL xs k) = nbLL xs
  | [], _ => rfl
  | x :: xs, k => by rw [mkLL, nbLL, nbLL, nbL_mkC x, nbLL_mk xs]
end
mutual
theorem nb_mk : ∀ x k, nb (mk x k) = nb x
  | .l t sz xs, k => by rw [mk, nb, nb, nbLL_mk xs]
  | .a fs, k => by rw [mk, nb, nb, nbL_mkA fs]
  | .p fs, k => by rw [mk, nb, nb, nbL_mkA fs]
  | .v _, _ => rfl
  | .s _, _ => rfl
theorem nbL_mkA : ∀ xs k, nbL (mkA xs k) = nbL xs
  | [], _ => rfl
  | x :: xs, k => by rw [mkA, nbL, nbL, nb_mk x, nbL_mkA xs]
end
mutual
theorem gv_mk : ∀ x k n, gv (mk x k) n = gv x n
  | .l t sz xs, k, n => by rw [mk, gv, gv, length_mkLL]
  | .a fs, k, n => by rw [mk, gv, gv, gvL_mkA fs]
  | .p fs, k, n => by rw [mk, gv, gv, gvL_mkA fs]
  | .v _, _, _ => rfl
  | .s _, _, _ => rfl
theorem gvL_mkA : ∀ xs k n, gvL (mkA xs k) n = gvL xs n
  | [], _, _ => rfl
  | x :: xs, k, n => by rw [mkA, gvL, gvL, gv_mk x, gvL_mkA xs, nb_mk]
end
theorem mkLL_all {sz : Nat} : ∀ (xs : List (List Tr)) (k : Nat), ((mkLL xs k).all fun e => e.length == sz) = xs.all fun e => e.length == sz
  | [], _ => rfl
  | x :: xs, k => by rw [mkLL, List.all_cons, List.all_cons, mkLL_all xs, length_mkC]
mutual
theorem okT_m1 : ∀ x k, okT (m1 x k) = okT x
  | .v _, _ => rfl
  | .s _, _ => rfl
  | .l t sz xs, k => by rw [m1, okT, okT, mkLL_all, okTLL_mk xs]
  | .a _, _ => rfl
  | .p _, _ => rfl
theorem okTL_mkC : ∀ xs k, okTL (mkC xs k) = okTL xs
  | [], _ => rfl
  | x :: xs, k => by rw [mkC, okTL, okTL, okTL_mkC xs, okT_m1 x]
theorem okTLL_mk : ∀ xs k, okTLL (mkLL xs k) = okTLL xs
  | [], _ => rfl
  | x :: xs, k => by rw [mkLL, okTLL, okTLL, okTL_mkC x, okTLL_mk xs]
end
mutual
theorem okT_mk : ∀ x k, okT (mk x k) = okT x
  | .l t sz xs, k => by rw [mk, okT, okT, mkLL_all, okTLL_mk xs]
  | .a fs, k => by rw [mk, okT, okT, okTL_mkA fs]
  | .p fs, k => by rw [mk, okT, okT, okTL_mkA fs]
  | .v _, _ => rfl
  | .s _, _ => rfl
theorem okTL_mkA : ∀ xs k, okTL (mkA xs k) = okTL xs
  | [], _ => rfl
  | x :: xs, k => by rw [mkA, okTL, okTL, okT_mk x, okTL_mkA xs]
end
def st (cs : List Tr) (k p : Nat) : List Tr := mkC (cs.take p) k ++ cs.drop p
theorem st_zero (cs : List Tr) (k : Nat) : st cs k 0 = cs := rfl
theorem st_all (cs : List Tr) (k : Nat) {p : Nat} (h : p = cs.length) : st cs k p = mkC cs k := by subst h; simp [st]
theorem length_st (cs : List Tr) (k p : Nat) : (st cs k p).length = cs.length := by simp [st, length_mkC]; omega
theorem st_at {cs : List Tr} {p : Nat} {x : Tr} (k : Nat) (h : cs[p]? = some x) : st cs k p = mkC (cs.take p) k ++ x :: cs.drop (p + 1) := by
  obtain ⟨hp, rfl⟩ := List.getElem?_eq_some_iff.1 h
  rw [st, List.drop_eq_getElem_cons hp]
theorem st_succ {cs : List Tr} {p : Nat} {x : Tr} (k : Nat) (h : cs[p]? = some x) : st cs k (p + 1) = mkC (cs.take p) k ++ m1 x (k + cnC (cs.take p)) :: cs.drop (p + 1) := by
  rw [st, List.take_add_one, h, mkC_append, List.append_assoc]; rfl
theorem cn_succ {cs : List Tr} {p : Nat} {x : Tr} (h : cs[p]? = some x) : cnC (cs.take (p + 1)) = cnC (cs.take p) + c1 x := by
  rw [List.take_add_one, h, cnC_append]; rfl
theorem cn_take_le (cs : List Tr) (p : Nat) : cnC (cs.take p) ≤ cnC cs := by
  have := cnC_append (cs.take p) (cs.drop p)
  rw [List.take_append_drop] at this; omega
theorem length_take_lt {cs : List Tr} {p : Nat} {x : Tr} (h : cs[p]? = some x) (k : Nat) : (mkC (cs.take p) k).length = p := by
  have := getElem?_lt h
  rw [length_mkC, List.length_take]; omega
/-- a number or a text is marked -/
theorem gvL_st {cs : List Tr} {p : Nat} {x : Tr} (k n : Nat) (h : cs[p]? = some x) :
    gvL (st cs k (p + 1)) n = (gvL (st cs k p) n).set p (gv (m1 x (k + cnC (cs.take p))) (n + nbL (cs.take p))) := by
  have hl : (gvL (mkC (cs.take p) k) n).length = p := by rw [length_gvL, length_take_lt h]
  rw [st_succ k h, st_at k h, gvL_append, gvL_append, List.set_append_right _ _ (by omega), hl, Nat.sub_self]
  rw [gvL, gvL, List.set_cons_zero, nb_m1, nbL_mkC]
theorem gbL_st {cs : List Tr} {p : Nat} {x : Tr} (k n : Nat) (h : cs[p]? = some x) (hx : nb x = 0) : gbL (st cs k (p + 1)) n = gbL (st cs k p) n := by
  have e1 : ∀ m, gb x m = [] := fun m => List.eq_nil_of_length_eq_zero (by rw [length_gb, hx])
  have e2 : ∀ m j, gb (m1 x j) m = [] := fun m j => List.eq_nil_of_length_eq_zero (by rw [length_gb, nb_m1, hx])
  rw [st_succ k h, st_at k h, gbL_append, gbL_append, gbL, gbL, e1, e2, nb_m1]
/-- a slice is marked -/
theorem gvL_stL {cs : List Tr} {p t sz : Nat} {ys : List (List Tr)} (k n : Nat) (h : cs[p]? = some (.l t sz ys)) : gvL (st cs k (p + 1)) n = gvL (st cs k p) n := by
  rw [st_succ k h, st_at k h, gvL_append, gvL_append, gvL, gvL, nb_m1, m1, gv, gv, length_mkLL]
theorem ld_st {cs : List Tr} {p : Nat} {x : Tr} (k n : Nat) (h : cs[p]? = some x) : (gvL (st cs k p) n).drop p = gv x (n + nbL (cs.take p)) :: gvL (cs.drop (p + 1)) (n + nbL (cs.take p) + nb x) := by
  have hl : (gvL (mkC (cs.take p) k) n).length = p := by rw [length_gvL, length_take_lt h]
  rw [st_at k h, gvL_append, List.drop_append_of_le_length (by omega), List.drop_of_length_le (by omega), List.nil_append, gvL, nbL_mkC]
theorem bx_st {cs : List Tr} {p t sz : Nat} {ys : List (List Tr)} (k : Nat) (h : cs[p]? = some (.l t sz ys)) (c : ABox) :
    c :: gbL (st cs k p) 1 = (c :: gbL (mkC (cs.take p) k) 1) ++ gb (.l t sz ys) (c :: gbL (mkC (cs.take p) k) 1).length ++ gbL (cs.drop (p + 1)) (1 + nbL (cs.take p) + nb (.l t sz ys)) := by
  rw [List.length_cons, length_gbL, nbL_mkC, st_at k h, gbL_append, gbL, nbL_mkC, Nat.add_comm (nbL _) 1]
  simp only [List.cons_append, List.append_assoc]
theorem bx_st' {cs : List Tr} {p t sz : Nat} {ys : List (List Tr)} (k : Nat) (h : cs[p]? = some (.l t sz ys)) (c : ABox) :
    (c :: gbL (mkC (cs.take p) k) 1) ++ gb (mk (.l t sz ys) (k + cnC (cs.take p))) (c :: gbL (mkC (cs.take p) k) 1).length ++ gbL (cs.drop (p + 1)) (1 + nbL (cs.take p) + nb (.l t sz ys)) = c :: gbL (st cs k (p + 1)) 1 := by
  rw [List.length_cons, length_gbL, nbL_mkC, st_succ k h, gbL_append, gbL, nbL_mkC, nb_m1, Nat.add_comm (nbL _) 1, m1, mk]
  simp only [List.cons_append, List.append_assoc]
theorem pre_st {cs : List Tr} {p : Nat} (k : Nat) (c : ABox) : (c :: gbL (mkC (cs.take p) k) 1).length = 1 + nbL (cs.take p) := by
  rw [List.length_cons, length_gbL, nbL_mkC, Nat.add_comm]
/-- the cells of element i -/
theorem cell_at {α : Type} [Inhabited α] (q : α → List Tr) (sz : Nat) (hq : ∀ a, (q a).length = sz) {l : List α} {i j : Nat} {x : Tr} (hi : i < l.length) (hx : (q (l.getD i default))[j]? = some x) : (l.map q).flatten[i * sz + j]? = some x := by
  refine flatten_get sz (l.map q) i j (q (l.getD i default)) x (fun e he => ?_) ?_ hx
  · obtain ⟨a, _, rfl⟩ := List.mem_map.1 he; exact hq a
  · simp [List.getD, hi]
theorem flat_len {α : Type} (q : α → List Tr) (sz : Nat) (hq : ∀ a, (q a).length = sz) (l : List α) : (l.map q).flatten.length = l.length * sz := by
  rw [length_flatten' sz _ (fun e he => by obtain ⟨a, _, rfl⟩ := List.mem_map.1 he; exact hq a), List.length_map]
theorem gb_l (t sz : Nat) (xs : List (List Tr)) (n : Nat) : gb (.l t sz xs) n = .cells (.row t sz) (gvL xs.flatten (n + 1)) :: gbL xs.flatten (n + 1) := by rw [gb, gvLL_flatten, gbLL_flatten]
theorem gb_mk_l (t sz : Nat) (xs : List (List Tr)) (k n : Nat) : gb (mk (.l t sz xs) k) n = .cells (.row t sz) (gvL (mkC xs.flatten k) (n + 1)) :: gbL (mkC xs.flatten k) (n + 1) := by rw [mk, gb_l, mkLL_flatten]
theorem cn_l (t sz : Nat) (xs : List (List Tr)) : cn (.l t sz xs) = cnC xs.flatten := by rw [cn, cnLL_flatten]
theorem gb_l0 (t sz : Nat) (xs : List (List Tr)) : gb (.l t sz xs) 0 = .cells (.row t sz) (gvL xs.flatten 1) :: gbL xs.flatten 1 := gb_l t sz xs 0
theorem gb_mk_l0 (t sz : Nat) (xs : List (List Tr)) (k : Nat) : gb (mk (.l t sz xs) k) 0 = .cells (.row t sz) (gvL (mkC xs.flatten k) 1) :: gbL (mkC xs.flatten k) 1 := gb_mk_l t sz xs k 0
theorem nbL_st (cs : List Tr) (k p : Nat) : nbL (st cs k p) = nbL cs := by
  rw [st, nbL_append, nbL_mkC, ← nbL_append, List.take_append_drop]
theorem weak_st {nb : Nat} {e e' : Env} {c c' : ABox} {L L' : List ABox} {f f' : Fr} (he : agrees e e') (hc : c = c') (hL : L = L') (hf : f = f') (hn : nb ≤ (c' :: L').length) : Weak nb ⟨e, c :: L, f⟩ ⟨e', c' :: L', f'⟩ := by
  subst hc; subst hL; subst hf
  exact ⟨he, List.take_length, rfl, hn, Or.inl (Nat.le_refl _)⟩
theorem take_all {α : Type} {n : Nat} {l : List α} (h : l.length ≤ n) : l.take n = l := List.take_of_length_le h
theorem takeAV_one {n : Nat} {cs : List AV} {k : AV → Prop} (c : AV) (r : List AV) (h : cs = c :: r) (hk : k c) : takeAV false n cs k := by subst h; exact hk
theorem Sees0.cut {xs : List AV} {ys : List Tr} (h : xs = oldL ys) : Sees0 (.agg xs) (.agg (oldL ys)) := by subst h; exact Sees0.oldagg ys
theorem cons_congr {α : Type} {a b : α} {l m : List α} (h : a = b) (h' : l = m) : a :: l = b :: m := by rw [h, h']
theorem tok_congr {a b : Nat} {l m : List (List AV)} (h : a = b) (h' : l = m) : AV.list (some a) l = AV.list (some b) m := by rw [h, h']
/-- element i of marked ones -/
theorem mkLL_get : ∀ (xs : List (List Tr)) (k i : Nat) (x : List Tr), xs[i]? = some x → (mkLL xs k)[i]? = some (mkC x (k + cnLL (xs.take i)))
  | [], _, _, _, h => by simp at h
  | y :: xs, k, 0, x, h => by simp at h; subst h; simp [mkLL, cnLL]
  | y :: xs, k, i + 1, x, h => by
    have := mkLL_get xs (k + cnC y) i x (by simpa using h)
    rw [mkLL, List.getElem?_cons_succ, this, List.take_succ_cons, cnLL, Nat.add_assoc]
theorem cnLL_succ {xs : List (List Tr)} {i : Nat} {x : List Tr} (h : xs[i]? = some x) : cnLL (xs.take (i + 1)) = cnLL (xs.take i) + cnC x := by
  have aux : ∀ a b, cnLL (a ++ b) = cnLL a + cnLL b := fun a b => by rw [cnLL_flatten, cnLL_flatten, cnLL_flatten, List.flatten_append, cnC_append]
  rw [List.take_add_one, h, aux, Option.toList_some, cnLL, cnLL, Nat.add_zero]
theorem cnLL_take_le (xs : List (List Tr)) (i : Nat) : cnLL (xs.take i) ≤ cnLL xs := by
  have aux : ∀ a b, cnLL (a ++ b) = cnLL a + cnLL b := fun a b => by rw [cnLL_flatten, cnLL_flatten, cnLL_flatten, List.flatten_append, cnC_append]
  have := aux (xs.take i) (xs.drop i)
  rw [List.take_append_drop] at this; omega
def CnB {α : Type} (T : Ty α) (w : Nat) : Prop := ∀ a, cnC (T.q a) ≤ w * (1 + T.size a)
theorem CnB.str : CnB Ty.str 1 := fun a => by show 1 + 0 ≤ 1 * (1 + _); omega
theorem CnB.int : CnB Ty.int 1 := fun a => by show 1 + 0 ≤ 1 * (1 + _); omega
theorem CnB.bool : CnB Ty.bool 1 := fun a => by show 1 + 0 ≤ 1 * (1 + _); omega
theorem CnB.pair {α β : Type} {T : Ty α} {U : Ty β} {w v : Nat} (h : CnB T w) (g : CnB U v) : CnB (Ty.pair T U) (w + v) := fun a => by
  show cnC (T.q a.1 ++ U.q a.2) ≤ (w + v) * (1 + (T.size a.1 + U.size a.2))
  rw [cnC_append, Nat.add_mul]
  exact Nat.add_le_add (Nat.le_trans (h a.1) (Nat.mul_le_mul_left _ (by omega))) (Nat.le_trans (g a.2) (Nat.mul_le_mul_left _ (by omega)))
theorem CnB.rows {α : Type} {T : Ty α} {w : Nat} (h : CnB T w) : ∀ l : List α, cnLL (l.map T.q) ≤ w * (l.length + listSize T l)
  | [] => Nat.zero_le _
  | a :: l => by
    have h1 := h.rows l
    have h2 := h a
    rw [List.map_cons, cnLL, List.length_cons, listSize]
    refine Nat.le_trans (Nat.add_le_add h2 h1) ?_
    rw [← Nat.mul_add]
    exact Nat.mul_le_mul_left _ (by omega)
theorem CnB.cellsL {α : Type} {T : Ty α} {w : Nat} (h : CnB T w) (t sz : Nat) (l : List α) : cnC [.l t sz (l.map T.q)] ≤ w * (1 + (l.length + listSize T l)) := by
  show cnLL (l.map T.q) + 0 ≤ _
  exact Nat.le_trans (h.rows l) (Nat.mul_le_mul_left _ (by omega))
theorem CnB.list {α : Type} {T : Ty α} {w : Nat} (h : CnB T w) (t : Nat) : CnB (Ty.list t T) w := fun l => h.cellsL t T.sz l
theorem CnB.plain {α : Type} {T : Ty α} {w : Nat} (h : CnB T w) (t : Nat) (h1 h2) : CnB (Ty.plain t T h1 h2) w := fun l => h.cellsL t T.sz l
theorem CnB.l {α : Type} {T : Ty α} {w : Nat} (h : CnB T w) (t sz : Nat) (l : List α) : cn (.l t sz (l.map T.q)) ≤ w * (l.length + listSize T l) := h.rows l
/-- the elements of a slice without slices of their own -/
theorem rowsP_tks {α : Type} (T : Ty α) (h : ∀ a, T.fr a = []) (e : ∀ a, T.tk a 0 = oldL (T.q a)) : ∀ l : List α, tks T l 0 = rows T l
  | [] => rfl
  | a :: l => by
    rw [tks, h, e]
    show _ :: tks T l (0 + 0) = _
    rw [Nat.add_zero, rowsP_tks T h e l]; rfl
end Abs
end Go.Proofs.Ytplfkocigmnpmaa
namespace Go.Proofs.Ytplfkocigmnpmaa
open Abs
theorem eqStringS.big (l m : List Str) (h : tStrs.size l ≤ 1099511627775) : eqStringS.Ret [.list none (strs l), .list none (strs m)] (.val (.bool (decide (l = m)))) [] := eqStringS.ret l m (by rw [tStrs_size] at h; omega)
theorem mkLL_sq : ∀ (l : List Str) (k : Nat), mkLL (l.map Ty.str.q) k = (markL l.length k).map sq
  | [], _ => rfl
  | s :: l, k => by
    have e : markL (l.length + 1) k = markF k :: markL l.length (k + 1) := by
      unfold markL
      rw [List.range_succ_eq_map, List.map_cons, List.map_map, Nat.add_zero]
      congr 1
      exact List.map_congr_left fun i _ => by show markF (k + (i + 1)) = markF (k + 1 + i); rw [Nat.add_assoc, Nat.add_comm 1 i]
    rw [List.map_cons, mkLL, List.length_cons, e, List.map_cons]
    exact congrArg _ (mkLL_sq l (k + 1))
theorem cnLL_sq : ∀ (l : List Str), cnLL (l.map Ty.str.q) = l.length
  | [] => rfl
  | s :: l => by rw [List.map_cons, cnLL, cnLL_sq l, List.length_cons]; show 1 + 0 + _ = _; omega
theorem markStringS.tn (l : List Str) (k : Nat) (_hs : tStrs.size l ≤ 1099511627775) (hk : k + cn (.l 9 1 (l.map Ty.str.q)) ≤ 1099511627775) :
    markStringS.Turn (gb (.l 9 1 (l.map Ty.str.q)) 0) [gv (.l 9 1 (l.map Ty.str.q)) 0, .val (.int .i64 k)] (.val (.int .i64 ((k + cn (.l 9 1 (l.map Ty.str.q)) : Nat)))) (gb (mk (.l 9 1 (l.map Ty.str.q)) k) 0) := by
  rw [mk, mkLL_sq]
  rw [cn, cnLL_sq] at hk ⊢
  exact markStringS.turn l k hk
theorem heldStringS.hd (l : List Str) (k : Nat) (_hs : tStrs.size l ≤ 1099511627775) (hk : k + cn (.l 9 1 (l.map Ty.str.q)) ≤ 1099511627775) :
    heldStringS.Ret [old (mk (.l 9 1 (l.map Ty.str.q)) k), .val (.int .i64 k)] (.val (.int .i64 ((k + cn (.l 9 1 (l.map Ty.str.q)) : Nat)))) [] := by
  rw [mk, mkLL_sq]
  rw [cn, cnLL_sq] at hk ⊢
  have h := heldStringS.ret (markL l.length k) k (by rw [length_markL]; exact hk)
  have e : heldL (markL l.length k) k = ((k + l.length : Nat) : Int) := by unfold heldL; rw [length_markL, if_pos rfl]
  rw [e] at h
  exact h
end Go.Proofs.Ytplfkocigmnpmaa
namespace Go.Proofs.Ytplfkocigmnpmaa
namespace Abs
theorem FinalC.all {Φ : AV → List ABox → Fr → Prop} {r : AV} {b : List ABox} {f : Fr} (h : Lends b b) (hk : Φ r b f) : FinalC Φ r b f := ⟨b, h, hk⟩
theorem FinalC.allA {Φ : AV → List ABox → Fr → Prop} {r : AV} {b : List ABox} {f : Fr} (hk : Φ r b f) (h : Lends b b := by repeat' first | exact Lends.nil | refine Lends.map _ ?_ | refine Lends.lend _ _ (by first | exact hx.1 | exact hy.1 | exact noTk_old _ | (intro c hc; rw [List.mem_singleton.1 hc]; rfl) | (intro c hc; cases hc; done)) ?_) : FinalC Φ r b f := ⟨b, h, hk⟩
section
variable {mo : Bool} {P : Program}
end
end Abs
open Abs
theorem str_le {l : List Str} {i : Nat} (hi : i < l.length) : (l.getD i []).length ≤ listSize Ty.str l :=
  listSize_mem Ty.str (List.mem_of_getElem? (by simp [List.getD, hi] : l[i]? = some (l.getD i [])))
end Go.Proofs.Ytplfkocigmnpmaa
namespace Go.Proofs.Ytplfkocigmnpmaa
open Abs
def l1In.code : ACode := (.seq (.region false [s 6 (.mv (.const (.bool false)))]) (.seq (.region false [s 7 (.mv (t 0)), s 8 (.mv (t 1)), s 9 (.bin .geq (t 7) (t 8)), s 10 (.mv (t 9)), g 10 true 11 (.mv (t 0)), g 10 true 12 (.mv (t 2)), g 10 true 13 (.bin .leq (t 11) (t 12)), s 14 (.and (t 10) (t 13)), s 6 (.mv (t 14))]) .ret))
def l1In.keep : List Nat := [0, 1, 2, 6]
def l1In.res : List RRes := [.tmp 6]
theorem l1In.of {mo : Bool} {args : List AV} {r : AV} {frs : Fr} (hn : Nat.ble args.length Try.f64.ntmps = true) (h : aCode (Kn mo Try.prog) l1In.keep 0 l1In.code (doneK l1In.res r frs) ⟨argEnv 0 args, [], []⟩) : Abs.Ret mo Try.prog 64 args r frs :=
  Abs.Ret.of_ir Try.func64 rfl (by kernel_rfl) (Nat.le_of_ble_eq_true hn) (by kernel_rfl) (by kernel_rfl) h
abbrev l1In.Ret (args : List AV) (r : AV) (frs : Fr) : Prop := Abs.Ret true Try.prog 64 args r frs
def isDigit.code : ACode := (.seq (.region false [s 2 (.mv (.const (.bool false)))]) (.seq (.region false [s 3 (.mv (t 0)), s 4 (.bin .leq (.const (.int .i32 48)) (t 3)), s 5 (.mv (t 4)), g 5 true 6 (.mv (t 0)), g 5 true 7 (.bin .leq (t 6) (.const (.int .i32 57))), s 8 (.and (t 5) (t 7)), s 2 (.mv (t 8))]) .ret))
def isDigit.keep : List Nat := [0, 2]
def isDigit.res : List RRes := [.tmp 2]
theorem isDigit.of {mo : Bool} {args : List AV} {r : AV} {frs : Fr} (hn : Nat.ble args.length Try.f138.ntmps = true) (h : aCode (Kn mo Try.prog) isDigit.keep 0 isDigit.code (doneK isDigit.res r frs) ⟨argEnv 0 args, [], []⟩) : Abs.Ret mo Try.prog 138 args r frs :=
  Abs.Ret.of_ir Try.func138 rfl (by kernel_rfl) (Nat.le_of_ble_eq_true hn) (by kernel_rfl) (by kernel_rfl) h
abbrev isDigit.Ret (args : List AV) (r : AV) (frs : Fr) : Prop := Abs.Ret true Try.prog 138 args r frs
def isLetter.code : ACode := (.seq (.region false [s 2 (.mv (.const (.bool false)))]) (.seq (.region false [s 3 (.mv (t 0)), s 4 (.bin .leq (.const (.int .i32 97)) (t 3)), s 5 (.mv (t 4)), g 5 true 6 (.mv (t 0)), g 5 true 7 (.bin .leq (t 6) (.const (.int .i32 122))), s 8 (.and (t 5) (t 7)), s 2 (.mv (t 8))]) .ret))
def isLetter.keep : List Nat := [0, 2]
def isLetter.res : List RRes := [.tmp 2]
theorem isLetter.of {mo : Bool} {args : List AV} {r : AV} {frs : Fr} (hn : Nat.ble args.length Try.f137.ntmps = true) (h : aCode (Kn mo Try.prog) isLetter.keep 0 isLetter.code (doneK isLetter.res r frs) ⟨argEnv 0 args, [], []⟩) : Abs.Ret mo Try.prog 137 args r frs :=
  Abs.Ret.of_ir Try.func137 rfl (by kernel_rfl) (Nat.le_of_ble_eq_true hn) (by kernel_rfl) (by kernel_rfl) h
abbrev isLetter.Ret (args : List AV) (r : AV) (frs : Fr) : Prop := Abs.Ret true Try.prog 137 args r frs
def sIsAtom.code : ACode := (.seq (.region false [s 2 (.mv (.const (.bool false)))]) (.seq (.seq (.region false [s 3 (.mv (.const (.int .i64 0)))]) (.block 0 (.loop (.seq (.seq (.region false [s 4 (.mv (t 3)), s 5 (.mv (t 0)), s 6 (.len true (t 5)), s 7 (.bin .lss (t 4) (t 6))]) (.cond (t 7) .skip (.exit 0))) (.seq (.block 1 (.seq (.region false [s 10 (.mv (t 0)), s 11 (.mv (t 3)), s 12 (.index (t 10) (t 11)), s 13 (.conv .i64 (t 12)), s 14 (.call 64 [(t 13), (.const (.int .i64 97)), (.const (.int .i64 122))]), s 15 (.not (t 14)), s 16 (.mv (t 15)), g 16 true 17 (.mv (t 0)), g 16 true 18 (.mv (t 3)), g 16 true 19 (.index (t 17) (t 18)), g 16 true 20 (.conv .i64 (t 19)), g 16 true 21 (.call 64 [(t 20), (.const (.int .i64 48)), (.const (.int .i64 57))]), g 16 true 22 (.not (t 21)), s 23 (.and (t 16) (t 22))]) (.cond (t 23) (.seq (.region false [s 2 (.mv (.const (.bool false)))]) .ret) .skip))) (.region false [s 8 (.mv (t 3)), s 9 (.bin .add (t 8) (.const (.int .i64 1))), s 3 (.mv (t 9))])))))) (.seq (.region false [s 24 (.mv (t 0)), s 25 (.len true (t 24)), s 26 (.call 64 [(t 25), (.const (.int .i64 1)), (.const (.int .i64 8))]), s 2 (.mv (t 26))]) .ret)))
def sIsAtom.keep : List Nat := [0, 2, 3]
def sIsAtom.res : List RRes := [.tmp 2]
theorem sIsAtom.of {mo : Bool} {args : List AV} {r : AV} {frs : Fr} (hn : Nat.ble args.length Try.f118.ntmps = true) (h : aCode (Kn mo Try.prog) sIsAtom.keep 0 sIsAtom.code (doneK sIsAtom.res r frs) ⟨argEnv 0 args, [], []⟩) : Abs.Ret mo Try.prog 118 args r frs :=
  Abs.Ret.of_ir Try.func118 rfl (by kernel_rfl) (Nat.le_of_ble_eq_true hn) (by kernel_rfl) (by kernel_rfl) h
abbrev sIsAtom.Ret (args : List AV) (r : AV) (frs : Fr) : Prop := Abs.Ret true Try.prog 118 args r frs
def pIsAtom.code : ACode := (.seq (.region false [s 2 (.mv (.const (.bool false)))]) (.seq (.seq (.region false [s 5 (.mv (t 0)), s 6 (.bin .eql (t 5) (.const (.string (.mk #[])))), s 7 (.mv (t 6)), g 7 false 8 (.mv (t 0)), g 7 false 9 (.len true (t 8)), g 7 false 10 (.bin .gtr (t 9) (.const (.int .i64 8))), s 11 (.or (t 7) (t 10))]) (.cond (t 11) (.seq (.region false [s 2 (.mv (.const (.bool false)))]) .ret) .skip)) (.seq (.seq (.region false [s 12 (.mv (t 0)), s 13 (.range (t 12))]) (.block 0 (.loop (.seq (.region false [s 14 (.next (t 13)), s 15 (.extract (t 14) 0)]) (.seq (.cond (t 15) .skip (.exit 0)) (.block 1 (.seq (.region false [s 16 (.extract (t 14) 2), s 4 (.mv (t 16))]) (.seq (.region false [s 17 (.mv (t 4)), s 18 (.call 137 [(t 17)]), s 19 (.not (t 18)), s 20 (.mv (t 19)), g 20 true 21 (.mv (t 4)), g 20 true 22 (.call 138 [(t 21)]), g 20 true 23 (.not (t 22)), s 24 (.and (t 20) (t 23))]) (.cond (t 24) (.seq (.region false [s 2 (.mv (.const (.bool false)))]) .ret) .skip))))))))) (.seq (.region false [s 2 (.mv (.const (.bool true)))]) .ret))))
def pIsAtom.keep : List Nat := [0, 2, 4, 13, 14, 15]
def pIsAtom.res : List RRes := [.tmp 2]
theorem pIsAtom.of {mo : Bool} {args : List AV} {r : AV} {frs : Fr} (hn : Nat.ble args.length Try.f123.ntmps = true) (h : aCode (Kn mo Try.prog) pIsAtom.keep 0 pIsAtom.code (doneK pIsAtom.res r frs) ⟨argEnv 0 args, [], []⟩) : Abs.Ret mo Try.prog 123 args r frs :=
  Abs.Ret.of_ir Try.func123 rfl (by kernel_rfl) (Nat.le_of_ble_eq_true hn) (by kernel_rfl) (by kernel_rfl) h
abbrev pIsAtom.Ret (args : List AV) (r : AV) (frs : Fr) : Prop := Abs.Ret true Try.prog 123 args r frs
def sIsName.code : ACode := (.seq (.region false [s 2 (.mv (.const (.bool false)))]) (.seq (.region false [s 3 (.mv (t 0)), s 4 (.call 118 [(t 3)]), s 5 (.mv (t 4)), g 5 true 6 (.mv (t 0)), g 5 true 7 (.index (t 6) (.const (.int .i64 0))), g 5 true 8 (.conv .i64 (t 7)), g 5 true 9 (.call 64 [(t 8), (.const (.int .i64 97)), (.const (.int .i64 122))]), s 10 (.and (t 5) (t 9)), s 2 (.mv (t 10))]) .ret))
def sIsName.keep : List Nat := [0, 2]
def sIsName.res : List RRes := [.tmp 2]
theorem sIsName.of {mo : Bool} {args : List AV} {r : AV} {frs : Fr} (hn : Nat.ble args.length Try.f119.ntmps = true) (h : aCode (Kn mo Try.prog) sIsName.keep 0 sIsName.code (doneK sIsName.res r frs) ⟨argEnv 0 args, [], []⟩) : Abs.Ret mo Try.prog 119 args r frs :=
  Abs.Ret.of_ir Try.func119 rfl (by kernel_rfl) (Nat.le_of_ble_eq_true hn) (by kernel_rfl) (by kernel_rfl) h
abbrev sIsName.Ret (args : List AV) (r : AV) (frs : Fr) : Prop := Abs.Ret true Try.prog 119 args r frs
def pIsName.code : ACode := (.seq (.region false [s 2 (.mv (.const (.bool false)))]) (.seq (.region false [s 3 (.mv (t 0)), s 4 (.call 123 [(t 3)]), s 5 (.mv (t 4)), g 5 true 6 (.mv (t 0)), g 5 true 7 (.index (t 6) (.const (.int .i64 0))), g 5 true 8 (.conv .i32 (t 7)), g 5 true 9 (.call 137 [(t 8)]), s 10 (.and (t 5) (t 9)), s 2 (.mv (t 10))]) .ret))
def pIsName.keep : List Nat := [0, 2]
def pIsName.res : List RRes := [.tmp 2]
theorem pIsName.of {mo : Bool} {args : List AV} {r : AV} {frs : Fr} (hn : Nat.ble args.length Try.f136.ntmps = true) (h : aCode (Kn mo Try.prog) pIsName.keep 0 pIsName.code (doneK pIsName.res r frs) ⟨argEnv 0 args, [], []⟩) : Abs.Ret mo Try.prog 136 args r frs :=
  Abs.Ret.of_ir Try.func136 rfl (by kernel_rfl) (Nat.le_of_ble_eq_true hn) (by kernel_rfl) (by kernel_rfl) h
abbrev pIsName.Ret (args : List AV) (r : AV) (frs : Fr) : Prop := Abs.Ret true Try.prog 136 args r frs
def sFormatInt.code : ACode := (.seq (.region false [s 2 (.mv (.const (.string (.mk #[]))))]) (.seq (.seq (.region false [s 4 (.mv (t 0)), s 5 (.bin .eql (t 4) (.const (.int .i64 (-9223372036854775808))))]) (.cond (t 5) (.seq (.region false [s 2 (.mv (.const (.string (.mk #[45, 57, 50, 50, 51, 51, 55, 50, 48, 51, 54, 56, 53, 52, 55, 55, 53, 56, 48, 56]))))]) .ret) .skip)) (.seq (.seq (.region false [s 6 (.mv (t 0)), s 7 (.bin .lss (t 6) (.const (.int .i64 0)))]) (.cond (t 7) (.seq (.region false [s 8 (.mv (t 0)), s 9 (.neg (t 8)), s 10 (.call 142 [(t 9)]), s 11 (.bin .add (.const (.string (.mk #[45]))) (t 10)), s 2 (.mv (t 11))]) .ret) .skip)) (.seq (.region false [s 3 (.mv (.const (.string (.mk #[]))))]) (.block 0 (.loop (.block 1 (.seq (.region false [s 12 (.mv (t 0)), s 13 (.bin .rem (t 12) (.const (.int .i64 10))), s 14 (.bin .add (.const (.int .i64 48)) (t 13)), s 15 (.conv .u8 (t 14)), s 16 (.bslice 5 1 true [(t 15)]), s 17 (.b2s (t 16)), s 18 (.mv (t 3)), s 19 (.bin .add (t 17) (t 18)), s 3 (.mv (t 19))]) (.seq (.region false [s 20 (.mv (t 0)), s 21 (.bin .quo (t 20) (.const (.int .i64 10))), s 0 (.mv (t 21))]) (.seq (.region false [s 22 (.mv (t 0)), s 23 (.bin .eql (t 22) (.const (.int .i64 0)))]) (.cond (t 23) (.seq (.region false [s 24 (.mv (t 3)), s 2 (.mv (t 24))]) .ret) .skip)))))))))))
def sFormatInt.keep : List Nat := [0, 2, 3]
def sFormatInt.res : List RRes := [.tmp 2]
theorem sFormatInt.ofS {mo : Bool} {args : List AV} {r : AV} (hr : isScalR r = true) (hn : Nat.ble args.length Try.f142.ntmps = true) (h : aCode (Kn mo Try.prog) sFormatInt.keep 0 sFormatInt.code (doneS sFormatInt.res r) ⟨argEnv 0 args, [], []⟩) : Abs.Ret mo Try.prog 142 args r [] :=
  Abs.Ret.of_irS hr Try.func142 rfl (by kernel_rfl) (Nat.le_of_ble_eq_true hn) (by kernel_rfl) (by kernel_rfl) h
abbrev sFormatInt.Ret (args : List AV) (r : AV) (frs : Fr) : Prop := Abs.Ret true Try.prog 142 args r frs
def sParseInt.code : ACode := (.seq (.region false [s 2 (.mv (.const (.int .i64 0))), s 3 (.mv (.const (.bool false)))]) (.seq (.seq (.region false [s 6 (.mv (t 0)), s 7 (.len true (t 6)), s 8 (.call 64 [(t 7), (.const (.int .i64 1)), (.const (.int .i64 4))]), s 9 (.not (t 8))]) (.cond (t 9) (.seq (.region false [s 2 (.mv (.const (.int .i64 0))), s 3 (.mv (.const (.bool false)))]) .ret) .skip)) (.seq (.region false [s 4 (.mv (.const (.int .i64 0)))]) (.seq (.seq (.region false [s 5 (.mv (.const (.int .i64 0)))]) (.block 0 (.loop (.seq (.seq (.region false [s 10 (.mv (t 5)), s 11 (.mv (t 0)), s 12 (.len true (t 11)), s 13 (.bin .lss (t 10) (t 12))]) (.cond (t 13) .skip (.exit 0))) (.seq (.block 1 (.seq (.seq (.region false [s 16 (.mv (t 0)), s 17 (.mv (t 5)), s 18 (.index (t 16) (t 17)), s 19 (.bin .lss (t 18) (.const (.int .u8 48))), s 20 (.mv (t 19)), g 20 false 21 (.mv (t 0)), g 20 false 22 (.mv (t 5)), g 20 false 23 (.index (t 21) (t 22)), g 20 false 24 (.bin .gtr (t 23) (.const (.int .u8 57))), s 25 (.or (t 20) (t 24))]) (.cond (t 25) (.seq (.region false [s 2 (.mv (.const (.int .i64 0))), s 3 (.mv (.const (.bool false)))]) .ret) .skip)) (.region false [s 26 (.mv (t 4)), s 27 (.bin .mul (.const (.int .i64 10)) (t 26)), s 28 (.mv (t 0)), s 29 (.mv (t 5)), s 30 (.index (t 28) (t 29)), s 31 (.bin .sub (t 30) (.const (.int .u8 48))), s 32 (.conv .i64 (t 31)), s 33 (.bin .add (t 27) (t 32)), s 4 (.mv (t 33))]))) (.region false [s 14 (.mv (t 5)), s 15 (.bin .add (t 14) (.const (.int .i64 1))), s 5 (.mv (t 15))])))))) (.seq (.seq (.region false [s 34 (.mv (t 4)), s 35 (.call 142 [(t 34)]), s 36 (.mv (t 0)), s 37 (.bin .neq (t 35) (t 36))]) (.cond (t 37) (.seq (.region false [s 2 (.mv (.const (.int .i64 0))), s 3 (.mv (.const (.bool false)))]) .ret) .skip)) (.seq (.region false [s 38 (.mv (t 4)), s 2 (.mv (t 38)), s 3 (.mv (.const (.bool true)))]) .ret))))))
def sParseInt.keep : List Nat := [0, 2, 3, 4, 5]
def sParseInt.res : List RRes := [.tmp 2, .tmp 3]
theorem sParseInt.ofS {mo : Bool} {args : List AV} {r : AV} (hr : isScalR r = true) (hn : Nat.ble args.length Try.f135.ntmps = true) (h : aCode (Kn mo Try.prog) sParseInt.keep 0 sParseInt.code (doneS sParseInt.res r) ⟨argEnv 0 args, [], []⟩) : Abs.Ret mo Try.prog 135 args r [] :=
  Abs.Ret.of_irS hr Try.func135 rfl (by kernel_rfl) (Nat.le_of_ble_eq_true hn) (by kernel_rfl) (by kernel_rfl) h
abbrev sParseInt.Ret (args : List AV) (r : AV) (frs : Fr) : Prop := Abs.Ret true Try.prog 135 args r frs
def pParseInt.code : ACode := (.seq (.region false [s 2 (.mv (.const (.int .i64 0))), s 3 (.mv (.const (.bool false)))]) (.seq (.seq (.region false [s 7 (.mv (t 0)), s 8 (.bin .eql (t 7) (.const (.string (.mk #[])))), s 9 (.mv (t 8)), g 9 false 10 (.mv (t 0)), g 9 false 11 (.len true (t 10)), g 9 false 12 (.bin .gtr (t 11) (.const (.int .i64 1))), g 9 false 13 (.mv (t 12)), g 13 true 14 (.mv (t 0)), g 13 true 15 (.index (t 14) (.const (.int .i64 0))), g 13 true 16 (.bin .eql (t 15) (.const (.int .u8 48))), g 9 false 17 (.and (t 13) (t 16)), s 18 (.or (t 9) (t 17))]) (.cond (t 18) (.seq (.region false [s 2 (.mv (.const (.int .i64 0))), s 3 (.mv (.const (.bool false)))]) .ret) .skip)) (.seq (.region false [s 4 (.mv (.const (.int .i64 0)))]) (.seq (.seq (.region false [s 19 (.mv (t 0)), s 20 (.range (t 19))]) (.block 0 (.loop (.seq (.region false [s 21 (.next (t 20)), s 22 (.extract (t 21) 0)]) (.seq (.cond (t 22) .skip (.exit 0)) (.block 1 (.seq (.region false [s 23 (.extract (t 21) 2), s 6 (.mv (t 23))]) (.seq (.seq (.region false [s 24 (.mv (t 6)), s 25 (.call 138 [(t 24)]), s 26 (.not (t 25))]) (.cond (t 26) (.seq (.region false [s 2 (.mv (.const (.int .i64 0))), s 3 (.mv (.const (.bool false)))]) .ret) .skip)) (.seq (.region false [s 27 (.mv (t 4)), s 28 (.bin .mul (.const (.int .i64 10)) (t 27)), s 29 (.mv (t 6)), s 30 (.bin .sub (t 29) (.const (.int .i32 48))), s 31 (.conv .i64 (t 30)), s 32 (.bin .add (t 28) (t 31)), s 4 (.mv (t 32))]) (.seq (.region false [s 33 (.mv (t 4)), s 34 (.bin .gtr (t 33) (.const (.int .i64 9999)))]) (.cond (t 34) (.seq (.region false [s 2 (.mv (.const (.int .i64 0))), s 3 (.mv (.const (.bool false)))]) .ret) .skip))))))))))) (.seq (.region false [s 35 (.mv (t 4)), s 2 (.mv (t 35)), s 3 (.mv (.const (.bool true)))]) .ret)))))
def pParseInt.keep : List Nat := [0, 2, 3, 4, 6, 20, 21, 22]
def pParseInt.res : List RRes := [.tmp 2, .tmp 3]
theorem pParseInt.ofS {mo : Bool} {args : List AV} {r : AV} (hr : isScalR r = true) (hn : Nat.ble args.length Try.f140.ntmps = true) (h : aCode (Kn mo Try.prog) pParseInt.keep 0 pParseInt.code (doneS pParseInt.res r) ⟨argEnv 0 args, [], []⟩) : Abs.Ret mo Try.prog 140 args r [] :=
  Abs.Ret.of_irS hr Try.func140 rfl (by kernel_rfl) (Nat.le_of_ble_eq_true hn) (by kernel_rfl) (by kernel_rfl) h
abbrev pParseInt.Ret (args : List AV) (r : AV) (frs : Fr) : Prop := Abs.Ret true Try.prog 140 args r frs
def sCompareAtoms.code : ACode := (.seq (.region false [s 4 (.mv (.const (.int .i64 0)))]) (.seq (.region false [s 10 (.mv (t 0)), s 11 (.call 135 [(t 10)]), s 9 (.mv (t 11)), s 12 (.extract (t 9) 0), s 13 (.extract (t 9) 1), s 5 (.mv (t 12)), s 6 (.mv (t 13))]) (.seq (.region false [s 15 (.mv (t 1)), s 16 (.call 135 [(t 15)]), s 14 (.mv (t 16)), s 17 (.extract (t 14) 0), s 18 (.extract (t 14) 1), s 7 (.mv (t 17)), s 8 (.mv (t 18))]) (.seq (.block 0 (.seq (.seq (.region false [s 20 (.mv (t 6)), s 21 (.mv (t 20)), g 21 true 22 (.mv (t 8)), s 23 (.and (t 21) (t 22)), s 24 (.mv (t 23)), g 24 true 25 (.mv (t 5)), g 24 true 26 (.mv (t 7)), g 24 true 27 (.bin .lss (t 25) (t 26)), s 28 (.and (t 24) (t 27)), s 19 (.mv (t 28))]) (.cond (t 19) .skip (.region false [s 29 (.mv (t 6)), s 30 (.mv (t 29)), g 30 true 31 (.mv (t 8)), g 30 true 32 (.not (t 31)), s 33 (.and (t 30) (t 32)), s 19 (.mv (t 33))]))) (.cond (t 19) (.seq (.region false [s 4 (.mv (.const (.int .i64 (-1))))]) .ret) (.seq (.seq (.region false [s 35 (.mv (t 6)), s 36 (.mv (t 35)), g 36 true 37 (.mv (t 8)), s 38 (.and (t 36) (t 37)), s 39 (.mv (t 38)), g 39 true 40 (.mv (t 5)), g 39 true 41 (.mv (t 7)), g 39 true 42 (.bin .gtr (t 40) (t 41)), s 43 (.and (t 39) (t 42)), s 34 (.mv (t 43))]) (.cond (t 34) .skip (.region false [s 44 (.mv (t 8)), s 45 (.mv (t 44)), g 45 true 46 (.mv (t 6)), g 45 true 47 (.not (t 46)), s 48 (.and (t 45) (t 47)), s 34 (.mv (t 48))]))) (.cond (t 34) (.seq (.region false [s 4 (.mv (.const (.int .i64 1)))]) .ret) (.seq (.region false [s 50 (.mv (t 6)), s 49 (.mv (t 50))]) (.cond (t 49) (.seq (.region false [s 4 (.mv (.const (.int .i64 0)))]) .ret) .skip))))))) (.seq (.region false [s 51 (.mv (t 0)), s 52 (.mv (t 1)), s 53 (.call 120 [(t 51), (t 52)]), s 4 (.mv (t 53))]) .ret)))))
def sCompareAtoms.keep : List Nat := [0, 1, 4, 5, 6, 7, 8, 19, 34]
def sCompareAtoms.res : List RRes := [.tmp 4]
theorem sCompareAtoms.of {mo : Bool} {args : List AV} {r : AV} {frs : Fr} (hn : Nat.ble args.length Try.f121.ntmps = true) (h : aCode (Kn mo Try.prog) sCompareAtoms.keep 0 sCompareAtoms.code (doneK sCompareAtoms.res r frs) ⟨argEnv 0 args, [], []⟩) : Abs.Ret mo Try.prog 121 args r frs :=
  Abs.Ret.of_ir Try.func121 rfl (by kernel_rfl) (Nat.le_of_ble_eq_true hn) (by kernel_rfl) (by kernel_rfl) h
abbrev sCompareAtoms.Ret (args : List AV) (r : AV) (frs : Fr) : Prop := Abs.Ret true Try.prog 121 args r frs
def pCompareAtoms.code : ACode := (.seq (.region false [s 4 (.mv (.const (.int .i64 0)))]) (.seq (.region false [s 10 (.mv (t 0)), s 11 (.call 140 [(t 10)]), s 9 (.mv (t 11)), s 12 (.extract (t 9) 0), s 13 (.extract (t 9) 1), s 5 (.mv (t 12)), s 6 (.mv (t 13))]) (.seq (.region false [s 15 (.mv (t 1)), s 16 (.call 140 [(t 15)]), s 14 (.mv (t 16)), s 17 (.extract (t 14) 0), s 18 (.extract (t 14) 1), s 7 (.mv (t 17)), s 8 (.mv (t 18))]) (.seq (.block 0 (.seq (.region false [s 20 (.mv (t 6)), s 21 (.mv (t 20)), g 21 true 22 (.mv (t 8)), s 23 (.and (t 21) (t 22)), s 19 (.mv (t 23))]) (.cond (t 19) (.seq (.region false [s 24 (.mv (t 5)), s 25 (.mv (t 7)), s 26 (.call 80 [(t 24), (t 25)]), s 4 (.mv (t 26))]) .ret) (.seq (.region false [s 28 (.mv (t 6)), s 27 (.mv (t 28))]) (.cond (t 27) (.seq (.region false [s 4 (.mv (.const (.int .i64 (-1))))]) .ret) (.seq (.region false [s 30 (.mv (t 8)), s 29 (.mv (t 30))]) (.cond (t 29) (.seq (.region false [s 4 (.mv (.const (.int .i64 1)))]) .ret) .skip))))))) (.seq (.region false [s 31 (.mv (t 0)), s 32 (.mv (t 1)), s 33 (.call 124 [(t 31), (t 32)]), s 4 (.mv (t 33))]) .ret)))))
def pCompareAtoms.keep : List Nat := [0, 1, 4, 5, 6, 7, 8]
def pCompareAtoms.res : List RRes := [.tmp 4]
theorem pCompareAtoms.of {mo : Bool} {args : List AV} {r : AV} {frs : Fr} (hn : Nat.ble args.length Try.f126.ntmps = true) (h : aCode (Kn mo Try.prog) pCompareAtoms.keep 0 pCompareAtoms.code (doneK pCompareAtoms.res r frs) ⟨argEnv 0 args, [], []⟩) : Abs.Ret mo Try.prog 126 args r frs :=
  Abs.Ret.of_ir Try.func126 rfl (by kernel_rfl) (Nat.le_of_ble_eq_true hn) (by kernel_rfl) (by kernel_rfl) h
abbrev pCompareAtoms.Ret (args : List AV) (r : AV) (frs : Fr) : Prop := Abs.Ret true Try.prog 126 args r frs
def sCmp.code : ACode := (.seq (.region false [s 4 (.mv (.const (.int .i64 0)))]) (.seq (.block 0 (.seq (.region false [s 6 (.mv (t 0)), s 7 (.mv (t 1)), s 8 (.bin .lss (t 6) (t 7)), s 5 (.mv (t 8))]) (.cond (t 5) (.seq (.region false [s 4 (.mv (.const (.int .i64 (-1))))]) .ret) (.seq (.region false [s 10 (.mv (t 0)), s 11 (.mv (t 1)), s 12 (.bin .gtr (t 10) (t 11)), s 9 (.mv (t 12))]) (.cond (t 9) (.seq (.region false [s 4 (.mv (.const (.int .i64 1)))]) .ret) .skip))))) (.seq (.region false [s 4 (.mv (.const (.int .i64 0)))]) .ret)))
def sCmp.keep : List Nat := [0, 1, 4]
def sCmp.res : List RRes := [.tmp 4]
theorem sCmp.of {mo : Bool} {args : List AV} {r : AV} {frs : Fr} (hn : Nat.ble args.length Try.f120.ntmps = true) (h : aCode (Kn mo Try.prog) sCmp.keep 0 sCmp.code (doneK sCmp.res r frs) ⟨argEnv 0 args, [], []⟩) : Abs.Ret mo Try.prog 120 args r frs :=
  Abs.Ret.of_ir Try.func120 rfl (by kernel_rfl) (Nat.le_of_ble_eq_true hn) (by kernel_rfl) (by kernel_rfl) h
abbrev sCmp.Ret (args : List AV) (r : AV) (frs : Fr) : Prop := Abs.Ret true Try.prog 120 args r frs
def cmpInt.code : ACode := (.seq (.region false [s 4 (.mv (.const (.int .i64 0)))]) (.seq (.region false [s 7 (.mv (t 0)), s 8 (.call 104 [(t 7)]), s 5 (.mv (t 8))]) (.seq (.region false [s 9 (.mv (t 1)), s 10 (.call 104 [(t 9)]), s 6 (.mv (t 10))]) (.seq (.seq (.region false [s 11 (.mv (t 5))]) (.cond (t 11) (.seq (.seq (.region false [s 12 (.mv (t 6))]) (.cond (t 12) (.seq (.region false [s 4 (.mv (.const (.int .i64 0)))]) .ret) .skip)) (.seq (.region false [s 4 (.mv (.const (.int .i64 (-1))))]) .ret)) .skip)) (.seq (.seq (.region false [s 13 (.mv (t 6))]) (.cond (t 13) (.seq (.region false [s 4 (.mv (.const (.int .i64 1)))]) .ret) .skip)) (.seq (.seq (.region false [s 14 (.mv (t 0)), s 15 (.mv (t 1)), s 16 (.bin .lss (t 14) (t 15))]) (.cond (t 16) (.seq (.region false [s 4 (.mv (.const (.int .i64 (-1))))]) .ret) .skip)) (.seq (.seq (.region false [s 17 (.mv (t 0)), s 18 (.mv (t 1)), s 19 (.bin .gtr (t 17) (t 18))]) (.cond (t 19) (.seq (.region false [s 4 (.mv (.const (.int .i64 1)))]) .ret) .skip)) (.seq (.region false [s 4 (.mv (.const (.int .i64 0)))]) .ret))))))))
def cmpInt.keep : List Nat := [0, 1, 4, 5, 6]
def cmpInt.res : List RRes := [.tmp 4]
theorem cmpInt.of {mo : Bool} {args : List AV} {r : AV} {frs : Fr} (hn : Nat.ble args.length Try.f80.ntmps = true) (h : aCode (Kn mo Try.prog) cmpInt.keep 0 cmpInt.code (doneK cmpInt.res r frs) ⟨argEnv 0 args, [], []⟩) : Abs.Ret mo Try.prog 80 args r frs :=
  Abs.Ret.of_ir Try.func80 rfl (by kernel_rfl) (Nat.le_of_ble_eq_true hn) (by kernel_rfl) (by kernel_rfl) h
abbrev cmpInt.Ret (args : List AV) (r : AV) (frs : Fr) : Prop := Abs.Ret true Try.prog 80 args r frs
def cmpString.code : ACode := (.seq (.region false [s 4 (.mv (.const (.int .i64 0)))]) (.seq (.region false [s 7 (.mv (t 0)), s 8 (.call 139 [(t 7)]), s 5 (.mv (t 8))]) (.seq (.region false [s 9 (.mv (t 1)), s 10 (.call 139 [(t 9)]), s 6 (.mv (t 10))]) (.seq (.seq (.region false [s 11 (.mv (t 5))]) (.cond (t 11) (.seq (.seq (.region false [s 12 (.mv (t 6))]) (.cond (t 12) (.seq (.region false [s 4 (.mv (.const (.int .i64 0)))]) .ret) .skip)) (.seq (.region false [s 4 (.mv (.const (.int .i64 (-1))))]) .ret)) .skip)) (.seq (.seq (.region false [s 13 (.mv (t 6))]) (.cond (t 13) (.seq (.region false [s 4 (.mv (.const (.int .i64 1)))]) .ret) .skip)) (.seq (.seq (.region false [s 14 (.mv (t 0)), s 15 (.mv (t 1)), s 16 (.bin .lss (t 14) (t 15))]) (.cond (t 16) (.seq (.region false [s 4 (.mv (.const (.int .i64 (-1))))]) .ret) .skip)) (.seq (.seq (.region false [s 17 (.mv (t 0)), s 18 (.mv (t 1)), s 19 (.bin .gtr (t 17) (t 18))]) (.cond (t 19) (.seq (.region false [s 4 (.mv (.const (.int .i64 1)))]) .ret) .skip)) (.seq (.region false [s 4 (.mv (.const (.int .i64 0)))]) .ret))))))))
def cmpString.keep : List Nat := [0, 1, 4, 5, 6]
def cmpString.res : List RRes := [.tmp 4]
theorem cmpString.of {mo : Bool} {args : List AV} {r : AV} {frs : Fr} (hn : Nat.ble args.length Try.f124.ntmps = true) (h : aCode (Kn mo Try.prog) cmpString.keep 0 cmpString.code (doneK cmpString.res r frs) ⟨argEnv 0 args, [], []⟩) : Abs.Ret mo Try.prog 124 args r frs :=
  Abs.Ret.of_ir Try.func124 rfl (by kernel_rfl) (Nat.le_of_ble_eq_true hn) (by kernel_rfl) (by kernel_rfl) h
abbrev cmpString.Ret (args : List AV) (r : AV) (frs : Fr) : Prop := Abs.Ret true Try.prog 124 args r frs
def isNaNInt.code : ACode := (.seq (.region false [s 2 (.mv (.const (.bool false)))]) (.seq (.region false [s 3 (.mv (t 0)), s 4 (.mv (t 0)), s 5 (.bin .neq (t 3) (t 4)), s 2 (.mv (t 5))]) .ret))
def isNaNInt.keep : List Nat := [0, 2]
def isNaNInt.res : List RRes := [.tmp 2]
theorem isNaNInt.of {mo : Bool} {args : List AV} {r : AV} {frs : Fr} (hn : Nat.ble args.length Try.f104.ntmps = true) (h : aCode (Kn mo Try.prog) isNaNInt.keep 0 isNaNInt.code (doneK isNaNInt.res r frs) ⟨argEnv 0 args, [], []⟩) : Abs.Ret mo Try.prog 104 args r frs :=
  Abs.Ret.of_ir Try.func104 rfl (by kernel_rfl) (Nat.le_of_ble_eq_true hn) (by kernel_rfl) (by kernel_rfl) h
abbrev isNaNInt.Ret (args : List AV) (r : AV) (frs : Fr) : Prop := Abs.Ret true Try.prog 104 args r frs
def isNaNString.code : ACode := (.seq (.region false [s 2 (.mv (.const (.bool false)))]) (.seq (.region false [s 3 (.mv (t 0)), s 4 (.mv (t 0)), s 5 (.bin .neq (t 3) (t 4)), s 2 (.mv (t 5))]) .ret))
def isNaNString.keep : List Nat := [0, 2]
def isNaNString.res : List RRes := [.tmp 2]
theorem isNaNString.of {mo : Bool} {args : List AV} {r : AV} {frs : Fr} (hn : Nat.ble args.length Try.f139.ntmps = true) (h : aCode (Kn mo Try.prog) isNaNString.keep 0 isNaNString.code (doneK isNaNString.res r frs) ⟨argEnv 0 args, [], []⟩) : Abs.Ret mo Try.prog 139 args r frs :=
  Abs.Ret.of_ir Try.func139 rfl (by kernel_rfl) (Nat.le_of_ble_eq_true hn) (by kernel_rfl) (by kernel_rfl) h
abbrev isNaNString.Ret (args : List AV) (r : AV) (frs : Fr) : Prop := Abs.Ret true Try.prog 139 args r frs
def slClone.code : ACode := (.seq (.region false [s 2 (.mv (.const (.slice none 0 0)))]) (.seq (.seq (.region false [s 3 (.mv (t 0)), s 4 (.nilq false (t 3))]) (.cond (t 4) (.seq (.region false [s 2 (.mv (.const (.slice none 0 0)))]) .ret) .skip)) (.seq (.region false [s 5 (.bslice 9 1 true []), s 6 (.mv (t 0)), s 7 (.append 9 1 16 (t 5) (t 6)), s 2 (.mv (t 7))]) .ret)))
def slClone.keep : List Nat := [0, 2]
def slClone.res : List RRes := [.tmp 2]
theorem slClone.of {mo : Bool} {args : List AV} {r : AV} {frs : Fr} (hn : Nat.ble args.length Try.f95.ntmps = true) (h : aCode (Kn mo Try.prog) slClone.keep 0 slClone.code (doneK slClone.res r frs) ⟨argEnv 0 args, [], []⟩) : Abs.Ret mo Try.prog 95 args r frs :=
  Abs.Ret.of_ir Try.func95 rfl (by kernel_rfl) (Nat.le_of_ble_eq_true hn) (by kernel_rfl) (by kernel_rfl) h
abbrev slClone.Ret (args : List AV) (r : AV) (frs : Fr) : Prop := Abs.Ret true Try.prog 95 args r frs
def sTexts.code : ACode := (.seq (.region false [s 2 (.mv (.const (.slice none 0 0)))]) (.seq (.region false [s 3 (.bslice 9 1 true []), s 4 (.mv (t 0)), s 5 (.append 9 1 16 (t 3) (t 4)), s 2 (.mv (t 5))]) .ret))
def sTexts.keep : List Nat := [0, 2]
def sTexts.res : List RRes := [.tmp 2]
theorem sTexts.of {mo : Bool} {args : List AV} {r : AV} {frs : Fr} (hn : Nat.ble args.length Try.f94.ntmps = true) (h : aCode (Kn mo Try.prog) sTexts.keep 0 sTexts.code (doneK sTexts.res r frs) ⟨argEnv 0 args, [], []⟩) : Abs.Ret mo Try.prog 94 args r frs :=
  Abs.Ret.of_ir Try.func94 rfl (by kernel_rfl) (Nat.le_of_ble_eq_true hn) (by kernel_rfl) (by kernel_rfl) h
abbrev sTexts.Ret (args : List AV) (r : AV) (frs : Fr) : Prop := Abs.Ret true Try.prog 94 args r frs
def sSameTexts.code : ACode := (.seq (.region false [s 4 (.mv (.const (.bool false)))]) (.seq (.seq (.region false [s 6 (.mv (t 0)), s 7 (.len false (t 6)), s 8 (.mv (t 1)), s 9 (.len false (t 8)), s 10 (.bin .neq (t 7) (t 9))]) (.cond (t 10) (.seq (.region false [s 4 (.mv (.const (.bool false)))]) .ret) .skip)) (.seq (.seq (.region false [s 5 (.mv (.const (.int .i64 0)))]) (.block 0 (.loop (.seq (.seq (.region false [s 11 (.mv (t 5)), s 12 (.mv (t 0)), s 13 (.len false (t 12)), s 14 (.bin .lss (t 11) (t 13))]) (.cond (t 14) .skip (.exit 0))) (.seq (.block 1 (.seq (.region true [s 17 (.mv (t 0)), s 18 (.mv (t 5)), s 19 (.iadr 1 (t 17) (t 18)), s 20 (.load false 1 (t 19)), s 21 (.mv (t 1)), s 22 (.mv (t 5)), s 23 (.iadr 1 (t 21) (t 22)), s 24 (.load false 1 (t 23)), s 25 (.bin .neq (t 20) (t 24))]) (.cond (t 25) (.seq (.region false [s 4 (.mv (.const (.bool false)))]) .ret) .skip))) (.region false [s 15 (.mv (t 5)), s 16 (.bin .add (t 15) (.const (.int .i64 1))), s 5 (.mv (t 16))])))))) (.seq (.region false [s 4 (.mv (.const (.bool true)))]) .ret))))
def sSameTexts.keep : List Nat := [0, 1, 4, 5]
def sSameTexts.res : List RRes := [.tmp 4]
theorem sSameTexts.of {mo : Bool} {args : List AV} {r : AV} {frs : Fr} (hn : Nat.ble args.length Try.f100.ntmps = true) (h : aCode (Kn mo Try.prog) sSameTexts.keep 0 sSameTexts.code (doneK sSameTexts.res r frs) ⟨argEnv 0 args, [], []⟩) : Abs.Ret mo Try.prog 100 args r frs :=
  Abs.Ret.of_ir Try.func100 rfl (by kernel_rfl) (Nat.le_of_ble_eq_true hn) (by kernel_rfl) (by kernel_rfl) h
abbrev sSameTexts.Ret (args : List AV) (r : AV) (frs : Fr) : Prop := Abs.Ret true Try.prog 100 args r frs
def slEqual.code : ACode := (.seq (.region false [s 4 (.mv (.const (.bool false)))]) (.seq (.seq (.region false [s 6 (.mv (t 0)), s 7 (.len false (t 6)), s 8 (.mv (t 1)), s 9 (.len false (t 8)), s 10 (.bin .neq (t 7) (t 9))]) (.cond (t 10) (.seq (.region false [s 4 (.mv (.const (.bool false)))]) .ret) .skip)) (.seq (.seq (.region false [s 11 (.mv (t 0)), s 12 (.len false (t 11)), s 13 (.mv (.const (.int .i64 0)))]) (.block 0 (.loop (.seq (.region false [s 14 (.bin .lss (t 13) (t 12))]) (.seq (.cond (t 14) .skip (.exit 0)) (.seq (.block 1 (.seq (.region false [s 15 (.mv (t 13)), s 5 (.mv (t 15))]) (.seq (.region true [s 16 (.mv (t 0)), s 17 (.mv (t 5)), s 18 (.iadr 1 (t 16) (t 17)), s 19 (.load false 1 (t 18)), s 20 (.mv (t 1)), s 21 (.mv (t 5)), s 22 (.iadr 1 (t 20) (t 21)), s 23 (.load false 1 (t 22)), s 24 (.bin .neq (t 19) (t 23))]) (.cond (t 24) (.seq (.region false [s 4 (.mv (.const (.bool false)))]) .ret) .skip)))) (.region false [s 25 (.bin .add (t 13) (.const (.int .i64 1))), s 13 (.mv (t 25))]))))))) (.seq (.region false [s 4 (.mv (.const (.bool true)))]) .ret))))
def slEqual.keep : List Nat := [0, 1, 4, 5, 12, 13, 14]
def slEqual.res : List RRes := [.tmp 4]
theorem slEqual.of {mo : Bool} {args : List AV} {r : AV} {frs : Fr} (hn : Nat.ble args.length Try.f101.ntmps = true) (h : aCode (Kn mo Try.prog) slEqual.keep 0 slEqual.code (doneK slEqual.res r frs) ⟨argEnv 0 args, [], []⟩) : Abs.Ret mo Try.prog 101 args r frs :=
  Abs.Ret.of_ir Try.func101 rfl (by kernel_rfl) (Nat.le_of_ble_eq_true hn) (by kernel_rfl) (by kernel_rfl) h
abbrev slEqual.Ret (args : List AV) (r : AV) (frs : Fr) : Prop := Abs.Ret true Try.prog 101 args r frs
def slCompareFunc.code : ACode := (.seq (.region false [s 6 (.mv (.const (.int .i64 0)))]) (.seq (.seq (.region false [s 11 (.mv (t 0)), s 12 (.len false (t 11)), s 13 (.mv (.const (.int .i64 0)))]) (.block 0 (.loop (.seq (.region false [s 14 (.bin .lss (t 13) (t 12))]) (.seq (.cond (t 14) .skip (.exit 0)) (.seq (.block 1 (.seq (.region false [s 15 (.mv (t 13)), s 16 (.iadr 1 (t 11) (t 13)), s 17 (.load false 1 (t 16)), s 7 (.mv (t 15)), s 8 (.mv (t 17))]) (.seq (.seq (.region false [s 18 (.mv (t 7)), s 19 (.mv (t 1)), s 20 (.len false (t 19)), s 21 (.bin .geq (t 18) (t 20))]) (.cond (t 21) (.seq (.region false [s 6 (.mv (.const (.int .i64 1)))]) .ret) .skip)) (.seq (.region false [s 22 (.mv (t 1)), s 23 (.mv (t 7)), s 24 (.iadr 1 (t 22) (t 23)), s 25 (.load false 1 (t 24)), s 9 (.mv (t 25))]) (.seq (.region false [s 26 (.mv (t 2)), s 27 (.mv (t 8)), s 28 (.mv (t 9)), s 29 (.callv (t 26) [(t 27), (t 28)]), s 10 (.mv (t 29))]) (.seq (.region false [s 30 (.mv (t 10)), s 31 (.bin .neq (t 30) (.const (.int .i64 0)))]) (.cond (t 31) (.seq (.region false [s 32 (.mv (t 10)), s 6 (.mv (t 32))]) .ret) .skip))))))) (.region false [s 33 (.bin .add (t 13) (.const (.int .i64 1))), s 13 (.mv (t 33))]))))))) (.seq (.seq (.region false [s 34 (.mv (t 0)), s 35 (.len false (t 34)), s 36 (.mv (t 1)), s 37 (.len false (t 36)), s 38 (.bin .lss (t 35) (t 37))]) (.cond (t 38) (.seq (.region false [s 6 (.mv (.const (.int .i64 (-1))))]) .ret) .skip)) (.seq (.region false [s 6 (.mv (.const (.int .i64 0)))]) .ret))))
def slCompareFunc.keep : List Nat := [0, 1, 2, 6, 7, 8, 9, 10, 11, 12, 13, 14]
def slCompareFunc.res : List RRes := [.tmp 6]
theorem slCompareFunc.of {mo : Bool} {args : List AV} {r : AV} {frs : Fr} (hn : Nat.ble args.length Try.f125.ntmps = true) (h : aCode (Kn mo Try.prog) slCompareFunc.keep 0 slCompareFunc.code (doneK slCompareFunc.res r frs) ⟨argEnv 0 args, [], []⟩) : Abs.Ret mo Try.prog 125 args r frs :=
  Abs.Ret.of_ir Try.func125 rfl (by kernel_rfl) (Nat.le_of_ble_eq_true hn) (by kernel_rfl) (by kernel_rfl) h
abbrev slCompareFunc.Ret (args : List AV) (r : AV) (frs : Fr) : Prop := Abs.Ret true Try.prog 125 args r frs
end Go.Proofs.Ytplfkocigmnpmaa
namespace Go.Proofs.Ytplfkocigmnpmaa
open Abs
theorem l1In.ret (x a b : Int) : l1In.Ret [.val (.int .i64 x), .val (.int .i64 a), .val (.int .i64 b)] (.val (.bool (decide (a ≤ x) && decide (x ≤ b)))) [] := by
  refine l1In.of rfl ?_
  repeat' first
    | (conv => whnf
       first | refine Need.mk (fun h => h) ?_ | refine Need.mk rfl ?_ | refine LitO.own rfl ?_ | refine FinVal.keep ?_ | refine Final.mk rfl rfl)
def letter (c : Int) : Bool := decide (97 ≤ c) && decide (c ≤ 122)
def digit (c : Int) : Bool := decide (48 ≤ c) && decide (c ≤ 57)
theorem isLetter.ret (x : Int) : isLetter.Ret [.val (.int .i32 x)] (.val (.bool (letter x))) [] := by
  refine isLetter.of rfl ?_; unfold letter
  repeat' first
    | (conv => whnf
       first | refine Need.mk (fun h => h) ?_ | refine Need.mk rfl ?_ | refine LitO.own rfl ?_ | refine FinVal.keep ?_ | refine Final.mk rfl rfl)
theorem isDigit.ret (x : Int) : isDigit.Ret [.val (.int .i32 x)] (.val (.bool (digit x))) [] := by
  refine isDigit.of rfl ?_; unfold digit
  repeat' first
    | (conv => whnf
       first | refine Need.mk (fun h => h) ?_ | refine Need.mk rfl ?_ | refine LitO.own rfl ?_ | refine FinVal.keep ?_ | refine Final.mk rfl rfl)
def alnum (c : UInt8) : Bool := letter c.toNat || digit c.toNat
def atomF (s : Str) : Bool := s.all alnum && (decide (1 ≤ (s.length : Int)) && decide ((s.length : Int) ≤ 8))
theorem wrap64_byte (c : UInt8) : IntKind.i64.wrap (c.toNat : Int) = c.toNat := wrap64 (by omega) (by have := c.toNat_lt; omega)
theorem wrap32_byte (c : UInt8) : IntKind.i32.wrap (c.toNat : Int) = c.toNat := by have h := c.toNat_lt; exact Go.IntWalk.i32_in _ ⟨by omega, by omega⟩
theorem atomF_no {x : Str} {i : Nat} (hi : i < x.length) (h : alnum (x.getD i 0) = false) : atomF x = false := by
  have : x.all alnum = false := by
    rw [List.all_eq_false]
    refine ⟨x.getD i 0, ?_, by rw [h]; simp⟩
    simp [List.getD, hi]
  simp [atomF, this]
theorem all_succ {x : Str} {i : Nat} (hi : i < x.length) (h : (x.take i).all alnum = true) (hc : alnum (x.getD i 0) = true) : (x.take (i + 1)).all alnum = true := by
  rw [take_succ' 0 hi, List.all_append, h]; simpa using hc
theorem all_end {x : Str} {i : Nat} (hi : x.length ≤ i) (h : (x.take i).all alnum = true) : x.all alnum = true := by
  rwa [List.take_of_length_le hi] at h
theorem nor {p q : Bool} (h : (!p && !q) = true) : (p || q) = false := by cases p <;> cases q <;> simp_all
theorem nor' {p q : Bool} (h : (!p && !q) = false) : (p || q) = true := by cases p <;> cases q <;> simp_all
theorem dec_cases (x : Str) (i : Nat) (hi : i < x.length) :
    ((x.getD i 0).toNat < 128 ∧ decodeS x i = ((x.getD i 0).toNat, 1)) ∨ (128 ≤ (x.getD i 0).toNat ∧ 128 ≤ (decodeS x i).1) := by
  have hs : i < (⟨x.toArray⟩ : ByteArray).size := hi
  have he : (⟨x.toArray⟩ : ByteArray)[i]'hs = x.getD i 0 := by
    have : (⟨x.toArray⟩ : ByteArray)[i]'hs = x[i] := rfl
    rw [this]; simp [List.getD, hi]
  rcases Nat.lt_or_ge (x.getD i 0).toNat 128 with h | h
  · exact .inl ⟨h, by unfold decodeS; rw [decode_ascii _ _ hs (by rw [he]; exact h), he]⟩
  · exact .inr ⟨h, (decode_high _ _ hs (by rw [he]; exact h)).1⟩
theorem sIsAtom.ret (x : Str) (hx : x.length ≤ 1048576) : sIsAtom.Ret [.str x] (.val (.bool (atomF x))) [] := by
  refine sIsAtom.of rfl ?_
  skip
  refine ALoop.mk Nat (fun i => ⟨[(0, .str x), (3, .val (.int .i64 i))], [], []⟩) (fun i => i ≤ x.length ∧ (x.take i).all alnum = true) (fun i => x.length - i) ⟨0, ⟨Nat.zero_le _, rfl⟩, ?_⟩ (fun i hi => ?_)
  · repeat' first
      | exact trivial | refine Weak.mk ?_ ?_ ?_ ?_ (Or.inl (Nat.le_of_ble_eq_true rfl)) | refine And.intro ?_ ?_ | with_reducible rfl | exact Nat.le_of_ble_eq_true rfl | refine AV.int_congr ?_ | refine AV.str_congr ?_ | (apply rfl)
  repeat' first
    | (conv => whnf
       first | refine Need.mk (fun h => h) ?_ | refine Need.mk rfl ?_ | refine Need.fin ?_ | refine Fork.dec (fun _ => ?_) (fun _ => ?_) | refine Fork.mk (fun _ => ?_) (fun _ => ?_) | refine Round.mk ?_ | refine LitO.own rfl ?_ | refine FinVal.keep ?_ | refine Final.mk ?_ rfl | refine ACall.scalA _ _ (l1In.ret _ _ _) rfl ?_ | refine AGCall.mkA _ _ (fun hg => l1In.ret _ _ _) rfl ?_)
    | refine AV.bool_congr ?_
  · rename_i h0 h1
    rw [atomF_no (i := i) (by omega) (by simp only [wrap64_byte, Int.toNat_natCast] at h1; exact nor h1)]
  · rename_i h0 h1
    refine ⟨i + 1, ⟨by omega, all_succ (by omega) hi.2 ?_⟩, ?_, by omega⟩
    · simp only [wrap64_byte, Int.toNat_natCast] at h1; exact nor' h1
    · repeat' first
        | exact trivial | refine Weak.mk ?_ ?_ ?_ ?_ (Or.inl (Nat.le_of_ble_eq_true rfl)) | refine And.intro ?_ ?_ | with_reducible rfl | exact Nat.le_of_ble_eq_true rfl | refine AV.int_congr ?_ | refine AV.str_congr ?_ | (apply rfl)
      rw [wrap64 (by omega) (by omega)]; rfl
  · simp [atomF, all_end (by omega) hi.2]
theorem pIsAtom.ret (x : Str) (hx : x.length ≤ 1048576) : pIsAtom.Ret [.str x] (.val (.bool (atomF x))) [] := by
  refine pIsAtom.of rfl ?_
  repeat' first
    | (conv => whnf
       first | refine Need.mk (fun h => h) ?_ | refine Need.mk rfl ?_ | refine Fork.mk (fun _ => ?_) (fun _ => ?_) | refine LitO.own rfl ?_ | refine FinVal.keep ?_ | refine Final.mk ?_ rfl)
    | refine AV.bool_congr ?_
  all_goals try refine ALoop.mk Nat (fun i => ⟨[(0, .str x), (13, .bptr 0 0)], [.iter x i], []⟩) (fun i => i ≤ x.length ∧ (x.take i).all alnum = true) (fun i => x.length - i) ⟨0, ⟨Nat.zero_le _, rfl⟩, ?_⟩ (fun i hi => ?_)
  rotate_left
  · repeat' first
      | exact trivial | refine Weak.mk ?_ ?_ ?_ ?_ (Or.inl (Nat.le_of_ble_eq_true rfl)) | refine And.intro ?_ ?_ | with_reducible rfl | exact Nat.le_of_ble_eq_true rfl | refine AV.str_congr ?_ | (apply rfl)
  repeat' first
    | contradiction
    | (conv => whnf
       first | refine Need.mk (fun h => h) ?_ | refine Fork.dec (fun _ => ?_) (fun _ => ?_) | refine Fork.mk (fun _ => ?_) (fun _ => ?_) | refine Round.mk ?_ | refine FinVal.keep ?_ | refine Final.mk ?_ rfl | refine ACall.scalA _ _ (isLetter.ret _) rfl ?_ | refine AGCall.mkA _ _ (fun hg => isDigit.ret _) rfl ?_)
    | refine AV.bool_congr ?_
  · rename_i h0 _ h1
    refine (atomF_no h0 ?_).symm
    rcases dec_cases x i h0 with ⟨_, h⟩ | ⟨h, _⟩
    · rw [h] at h1; exact nor h1
    · rw [List.getD_eq_getElem?_getD] at h; simp [alnum, letter, digit]; omega
  · rename_i h0 _ h1
    rcases dec_cases x i h0 with ⟨_, h⟩ | ⟨_, h⟩
    · rw [h] at h1
      refine ⟨i + 1, ⟨h0, all_succ h0 hi.2 (nor' h1)⟩, ?_, by omega⟩
      repeat' first
        | exact trivial | refine Weak.mk ?_ ?_ ?_ ?_ (Or.inl (Nat.le_of_ble_eq_true rfl)) | refine And.intro ?_ ?_ | with_reducible rfl | exact Nat.le_of_ble_eq_true rfl | refine AV.str_congr ?_ | (apply rfl)
      simp [h]
    · exfalso
      revert h1; simp [letter, digit]; omega
  · rename_i h1 h2 _
    simp only [Bool.or_eq_false_iff, decide_eq_false_iff_not] at h1
    have h3 : x ≠ [] := by simpa using h1.1
    have h4 : 0 < x.length := List.length_pos_iff.2 h3
    have h5 : (1 : Int) ≤ x.length := by omega
    have h6 : (x.length : Int) ≤ 8 := by omega
    simp [atomF, all_end (by omega) hi.2, h5, h6]
  · rename_i h1
    rcases Bool.or_eq_true_iff.1 h1 with h | h
    · have h3 : x = [] := by simpa using h
      subst h3; rfl
    · have : ¬ ((x.length : Int) ≤ 8) := by have := of_decide_eq_true h; omega
      simp [atomF, this]
end Go.Proofs.Ytplfkocigmnpmaa
namespace Go.Proofs.Ytplfkocigmnpmaa
open Abs
def fmt (n : Nat) : Str := if h : n < 10 then [UInt8.ofNat (48 + n)] else fmt (n / 10) ++ [UInt8.ofNat (48 + n % 10)]
termination_by n
decreasing_by omega
def dval (n : Nat) (c : UInt8) : Nat := 10 * n + (c.toNat - 48)
def valA (a : Nat) (s : Str) : Nat := s.foldl dval a
def dig (c : UInt8) : Bool := digit c.toNat
theorem dig_range {c : UInt8} (h : dig c = true) : 48 ≤ c.toNat ∧ c.toNat ≤ 57 := by
  simp [dig, digit] at h; omega
theorem fmt_small {n : Nat} (h : n < 10) : fmt n = [UInt8.ofNat (48 + n)] := by rw [fmt, dif_pos h]
theorem fmt_big {n : Nat} (h : 10 ≤ n) : fmt n = fmt (n / 10) ++ [UInt8.ofNat (48 + n % 10)] := by rw [fmt, dif_neg (by omega)]
theorem ofNat_dig {c : UInt8} (h : dig c = true) : UInt8.ofNat (48 + (c.toNat - 48)) = c := by
  have := dig_range h
  have e : 48 + (c.toNat - 48) = c.toNat := by omega
  rw [e]; exact UInt8.ofNat_toNat
theorem valA_lt {s : Str} (h : s.all dig = true) (a : Nat) : valA a s < (a + 1) * 10 ^ s.length := by
  induction s generalizing a with
  | nil => simp [valA]
  | cons c s ih =>
    simp only [List.all_cons, Bool.and_eq_true] at h
    have h1 := ih h.2 (dval a c)
    have h2 := dig_range h.1
    have h3 : (dval a c + 1) ≤ (a + 1) * 10 := by unfold dval; omega
    have h4 := Nat.mul_le_mul_right (10 ^ s.length) h3
    have h5 : (a + 1) * 10 * 10 ^ s.length = (a + 1) * 10 ^ (c :: s).length := by rw [List.length_cons, Nat.pow_succ, Nat.mul_assoc, Nat.mul_comm 10]
    show valA (dval a c) s < _
    omega
theorem valA_ge (s : Str) (a : Nat) : a * 10 ^ s.length ≤ valA a s := by
  induction s generalizing a with
  | nil => simp [valA]
  | cons c s ih =>
    have h1 := ih (dval a c)
    have h3 : a * 10 ≤ dval a c := by unfold dval; omega
    have h4 := Nat.mul_le_mul_right (10 ^ s.length) h3
    have h5 : a * 10 * 10 ^ s.length = a * 10 ^ (c :: s).length := by rw [List.length_cons, Nat.pow_succ, Nat.mul_assoc, Nat.mul_comm 10]
    show _ ≤ valA (dval a c) s
    omega
theorem fmt_valA {s : Str} (h : s.all dig = true) (a : Nat) (ha : 0 < a) : fmt (valA a s) = fmt a ++ s := by
  induction s generalizing a with
  | nil => simp [valA]
  | cons c s ih =>
    simp only [List.all_cons, Bool.and_eq_true] at h
    have h2 := dig_range h.1
    show fmt (valA (dval a c) s) = _
    rw [ih h.2 (dval a c) (by unfold dval; omega)]
    have h3 : dval a c / 10 = a := by unfold dval; omega
    have h4 : dval a c % 10 = c.toNat - 48 := by unfold dval; omega
    rw [fmt_big (n := dval a c) (by unfold dval; omega), h3, h4, ofNat_dig h.1]
    simp
theorem fmt_head (n : Nat) (h : 0 < n) : ∃ c r, fmt n = c :: r ∧ c ≠ 48 := by
  induction n using Nat.strongRecOn with
  | _ n ih =>
    rcases Nat.lt_or_ge n 10 with h1 | h1
    · refine ⟨_, [], fmt_small h1, fun e => ?_⟩
      have := congrArg UInt8.toNat e
      simp at this
      omega
    · obtain ⟨c, r, e, hc⟩ := ih (n / 10) (by omega) (by omega)
      exact ⟨c, r ++ [_], by rw [fmt_big h1, e]; rfl, hc⟩
/-- a text that is a number, as it is written -/
def isNum (s : Str) : Bool := match s with
  | [] => false
  | [c] => dig c
  | c :: d :: s => (c :: d :: s).all dig && c != 48
theorem fmt_of_isNum {s : Str} (h : isNum s = true) : fmt (valA 0 s) = s := by
  match s, h with
  | [c], h =>
    have h2 := dig_range h
    have e : valA 0 [c] = c.toNat - 48 := by simp [valA, dval]
    rw [e, fmt_small (by omega), ofNat_dig h]
  | c :: d :: s, h =>
    simp only [isNum, Bool.and_eq_true, bne_iff_ne, ne_eq] at h
    have hc : dig c = true := by have := h.1; simp only [List.all_cons, Bool.and_eq_true] at this; exact this.1
    have hs : (d :: s).all dig = true := by have := h.1; rw [List.all_cons, Bool.and_eq_true] at this; exact this.2
    have h2 := dig_range hc
    have h3 : c.toNat ≠ 48 := fun e => h.2 (by rw [← UInt8.ofNat_toNat (x := c), e]; rfl)
    show fmt (valA (dval 0 c) (d :: s)) = _
    have e : dval 0 c = c.toNat - 48 := by simp [dval]
    rw [e, fmt_valA hs _ (by omega), fmt_small (by omega), ofNat_dig hc]
    rfl
theorem isNum_of_fmt {s : Str} (hd : s.all dig = true) (h : fmt (valA 0 s) = s) : isNum s = true := by
  match s, hd, h with
  | [], _, h =>
    exfalso
    have : fmt (valA 0 []) = [48] := by simp [valA, fmt_small]
    rw [this] at h; cases h
  | [c], hd, _ => simpa [isNum] using hd
  | c :: d :: s, hd, h =>
    simp only [isNum, hd, Bool.true_and, bne_iff_ne, ne_eq]
    intro hc
    subst hc
    rcases Nat.eq_zero_or_pos (valA 0 (48 :: d :: s)) with h0 | h0
    · rw [h0] at h
      have : fmt 0 = [48] := by simp [fmt_small]
      rw [this] at h; cases h
    · obtain ⟨c, r, e, hc⟩ := fmt_head _ h0
      rw [h] at e; cases e; exact hc rfl
theorem isNum_digits {s : Str} (h : isNum s = true) : s.all dig = true := by
  match s, h with
  | [c], h => simpa [isNum] using h
  | c :: d :: s, h => simp only [isNum, Bool.and_eq_true] at h; exact h.1
theorem isNum_len {s : Str} (h : isNum s = true) (hv : valA 0 s ≤ 9999) : s.length ≤ 4 := by
  match s, h with
  | [c], _ => simp
  | c :: d :: s, h =>
    have hd := isNum_digits h
    simp only [isNum, Bool.and_eq_true, bne_iff_ne, ne_eq] at h
    have hc : dig c = true := by have := h.1; simp only [List.all_cons, Bool.and_eq_true] at this; exact this.1
    have h2 := dig_range hc
    have h3 : c.toNat ≠ 48 := fun e => h.2 (by rw [← UInt8.ofNat_toNat (x := c), e]; rfl)
    have h4 : valA (dval 0 c) (d :: s) ≤ 9999 := hv
    have h5 := valA_ge (d :: s) (dval 0 c)
    rcases Nat.lt_or_ge 4 (c :: d :: s).length with h6 | h6
    · exfalso
      have h7 : 10 ^ 4 ≤ 10 ^ (d :: s).length := Nat.pow_le_pow_right (by omega) (by simp at h6 ⊢; omega)
      have h8 : 1 ≤ dval 0 c := by unfold dval; omega
      have h9 := Nat.mul_le_mul h8 h7
      omega
    · exact h6
def numF (s : Str) : Bool := isNum s && decide (s.length ≤ 4)
def parseF (s : Str) : Int × Bool := if numF s then (valA 0 s, true) else (0, false)
theorem valA_lt4 {s : Str} (h : s.all dig = true) (hl : s.length ≤ 4) : valA 0 s ≤ 9999 := by
  have h1 := valA_lt h 0
  have h2 : 10 ^ s.length ≤ 10 ^ 4 := Nat.pow_le_pow_right (by omega) hl
  omega
theorem fmt_len4 {n : Nat} (h : n ≤ 9999) : (fmt n).length ≤ 4 := by
  rcases Nat.lt_or_ge n 10 with h1 | h1
  · rw [fmt_small h1]; simp
  rw [fmt_big h1]
  rcases Nat.lt_or_ge (n / 10) 10 with h2 | h2
  · rw [fmt_small h2]; simp
  rw [fmt_big h2]
  rcases Nat.lt_or_ge (n / 10 / 10) 10 with h3 | h3
  · rw [fmt_small h3]; simp
  rw [fmt_big h3]
  rw [fmt_small (n := n / 10 / 10 / 10) (by omega)]; simp
theorem valA_snoc (s : Str) (c : UInt8) : valA 0 (s ++ [c]) = 10 * valA 0 s + (c.toNat - 48) := by
  unfold valA; rw [List.foldl_append]; rfl
end Go.Proofs.Ytplfkocigmnpmaa
namespace Go.Proofs.Ytplfkocigmnpmaa
open Abs
theorem sFormatInt.ret (n : Nat) (h : n ≤ 9999) : sFormatInt.Ret [.val (.int .i64 n)] (.str (fmt n)) [] := by
  refine sFormatInt.ofS rfl rfl ?_
  repeat' first
    | (conv => whnf
       first | refine Need.mk rfl ?_ | refine Fork.decNo (by omega) ?_ | refine LitO.own rfl ?_)
  refine ALoop.mk (Nat × Str × Fr) (fun a => ⟨[(0, .val (.int .i64 a.1)), (3, .str a.2.1)], [], a.2.2⟩) (fun a => fmt a.1 ++ a.2.1 = fmt n ∧ a.1 ≤ 9999) (fun a => a.1) ⟨(n, [], []), ⟨by simp, h⟩, ?_⟩ (fun a ha => ?_)
  · repeat' first
      | exact trivial | refine Weak.mk ?_ ?_ ?_ ?_ (Or.inl (Nat.le_of_ble_eq_true rfl)) | refine And.intro ?_ ?_ | with_reducible rfl | exact Nat.le_of_ble_eq_true rfl | refine AV.int_congr ?_ | refine AV.str_congr ?_ | (apply rfl)
  repeat' first
    | (conv => whnf
       first | refine Need.mk rfl ?_ | refine Need.fin ?_ | refine LitO.own rfl ?_)
  conv => whnf
  have hd : (↑a.1 : Int).tmod 10 = (a.1 % 10 : Nat) := by rw [Int.tmod_eq_emod_of_nonneg (by omega)]; omega
  have hq : IntKind.i64.wrap ((↑a.1 : Int).tdiv 10) = (a.1 / 10 : Nat) := by rw [Int.tdiv_eq_ediv_of_nonneg (by omega), wrap64 (by omega) (by omega)]; omega
  have hl : a.2.1.length ≤ 4 := by
    have h1 := congrArg List.length ha.1
    have h2 := fmt_len4 h
    rw [List.length_append] at h1
    omega
  refine Bytes.mk [UInt8.ofNat (48 + a.1 % 10)] ?_ ?_
  · rw [hd, wrap64 (by omega) (by omega)]
    simp only [List.map_cons, List.map_nil, byteCell]
    rw [Go.IntWalk.u8_in _ ⟨by omega, by omega⟩]
    congr 4
    simp
    omega
  repeat' first
    | (conv => whnf
       first | refine Need.mk rfl ?_ | refine Need.fin ?_ | refine Need.mk ?_ ?_ | refine Fork.dec (fun _ => ?_) (fun _ => ?_) | refine Round.mk ?_ | refine LitO.own rfl ?_ | refine Final.mk ?_ rfl)
    | refine AV.str_congr ?_
  · simp only [List.length_cons, List.length_nil]; omega
  · rename_i h1
    rw [hq] at h1
    rw [← ha.1, fmt_small (by omega)]
    have : a.1 % 10 = a.1 := by omega
    rw [this]
  · rename_i h1
    rw [hq] at h1
    refine ⟨(a.1 / 10, [UInt8.ofNat (48 + a.1 % 10)] ++ a.2.1, a.2.2 ++ [(5, 1, 1)]), ⟨?_, by show a.1 / 10 ≤ 9999; omega⟩, ?_, by show a.1 / 10 < a.1; omega⟩
    · rw [← ha.1, fmt_big (n := a.1) (by omega), List.append_assoc]
    · repeat' first
        | exact trivial | refine Weak.mk ?_ ?_ ?_ ?_ (Or.inl (Nat.le_of_ble_eq_true rfl)) | refine And.intro ?_ ?_ | with_reducible rfl | exact Nat.le_of_ble_eq_true rfl | refine AV.int_congr ?_ | refine AV.str_congr ?_ | (apply rfl)
      exact hq
theorem parseF_no {x : Str} (h : numF x = false) : parseF x = (0, false) := by
  unfold parseF; rw [if_neg (by simp [h])]
theorem parseF_yes {x : Str} (h : numF x = true) : parseF x = (↑(valA 0 x), true) := by
  unfold parseF; rw [if_pos h]
theorem digs_no {x : Str} {i : Nat} (hi : i < x.length) (h : dig (x.getD i 0) = false) : numF x = false := by
  cases hn : numF x with
  | false => rfl
  | true =>
    exfalso
    simp only [numF, Bool.and_eq_true] at hn
    have := List.all_eq_true.1 (isNum_digits hn.1) (x.getD i 0) (by simp [List.getD, hi])
    rw [h] at this; cases this
theorem digs_succ {x : Str} {i : Nat} (hi : i < x.length) (h : (x.take i).all dig = true) (hc : dig (x.getD i 0) = true) : (x.take (i + 1)).all dig = true := by
  rw [take_succ' 0 hi, List.all_append, h]; simpa using hc
theorem val_succ {x : Str} {i : Nat} (hi : i < x.length) : valA 0 (x.take (i + 1)) = 10 * valA 0 (x.take i) + ((x.getD i 0).toNat - 48) := by
  rw [take_succ' 0 hi, valA_snoc]
theorem wrap_val {v : Nat} {c : UInt8} (hv : v ≤ 9999) (hc : dig c = true) : IntKind.i64.wrap (IntKind.i64.wrap (10 * (v : Int)) + IntKind.i64.wrap (IntKind.u8.wrap ((c.toNat : Int) - 48))) = ((10 * v + (c.toNat - 48) : Nat) : Int) := by
  have h := dig_range hc
  rw [Go.IntWalk.u8_in _ ⟨by omega, by omega⟩, wrap64 (x := 10 * (v : Int)) (by omega) (by omega), wrap64 (x := (c.toNat : Int) - 48) (by omega) (by omega), wrap64 (by omega) (by omega)]
  omega
theorem valA_le4 {x : Str} {i : Nat} (h : (x.take i).all dig = true) (hx : x.length ≤ 4) : valA 0 (x.take i) ≤ 9999 :=
  valA_lt4 h (by rw [List.length_take]; omega)
theorem sParseInt.ret (x : Str) (hx : x.length ≤ 1048576) : sParseInt.Ret [.str x] (.tup [.val (.int .i64 (parseF x).1), .val (.bool (parseF x).2)]) [] := by
  refine sParseInt.ofS rfl rfl ?_
  repeat' first
    | (conv => whnf
       first | refine Fork.neg (fun _ => ?_) (fun _ => ?_) | refine FinVal.keep ?_ | refine Final.mk ?_ rfl | refine ACall.scalA _ _ (l1In.ret _ _ _) rfl ?_)
  · rename_i h
    have : numF x = false := by
      simp only [numF, Bool.and_eq_false_iff, decide_eq_false_iff_not] at h ⊢
      rcases h with h | h
      · left
        have : x.length = 0 := by omega
        rw [List.eq_nil_of_length_eq_zero this]; rfl
      · right; omega
    rw [parseF_no this]
  rename_i h
  simp only [Bool.and_eq_true, decide_eq_true_eq] at h
  have hl : x.length ≤ 4 := by omega
  clear h
  skip
  refine ALoop.mk Nat (fun i => ⟨[(0, .str x), (4, .val (.int .i64 (valA 0 (x.take i)))), (5, .val (.int .i64 i))], [], []⟩) (fun i => i ≤ x.length ∧ (x.take i).all dig = true) (fun i => x.length - i) ⟨0, ⟨Nat.zero_le _, rfl⟩, ?_⟩ (fun i hi => ?_)
  · repeat' first
      | exact trivial | refine Weak.mk ?_ ?_ ?_ ?_ (Or.inl (Nat.le_of_ble_eq_true rfl)) | refine And.intro ?_ ?_ | with_reducible rfl | exact Nat.le_of_ble_eq_true rfl | refine AV.int_congr ?_ | refine AV.str_congr ?_ | (apply rfl)
  repeat' first
    | (conv => whnf
       first | refine Need.mk (fun h => h) ?_ | refine Need.mk rfl ?_ | refine Need.fin ?_ | refine Fork.dec (fun _ => ?_) (fun _ => ?_) | refine Fork.sne (fun _ => ?_) (fun _ => ?_) | refine Fork.mk (fun _ => ?_) (fun _ => ?_) | refine Round.mk ?_ | refine LitO.own rfl ?_ | refine FinVal.keep ?_ | refine Final.mk ?_ rfl | refine ACall.scalA _ _ (sFormatInt.ret _ ?_) rfl ?_)
  · rename_i h0 h
    have hn : numF x = false := digs_no (i := i) (by omega) (by
      simp only [Int.toNat_natCast] at h
      simp only [Bool.or_eq_true, decide_eq_true_eq] at h
      simp only [dig, digit, Bool.and_eq_false_iff, decide_eq_false_iff_not]; omega)
    rw [parseF_no hn]
  · rename_i h0 h
    have hc : dig (x.getD i 0) = true := by
      simp only [Int.toNat_natCast] at h
      simp only [Bool.or_eq_false_iff, decide_eq_false_iff_not] at h
      simp only [dig, digit, Bool.and_eq_true, decide_eq_true_eq]; omega
    have h1 := valA_le4 hi.2 hl
    have h2 := wrap_val h1 hc
    refine ⟨i + 1, ⟨by omega, digs_succ (by omega) hi.2 hc⟩, ?_, by omega⟩
    repeat' first
      | exact trivial | refine Weak.mk ?_ ?_ ?_ ?_ (Or.inl (Nat.le_of_ble_eq_true rfl)) | refine And.intro ?_ ?_ | with_reducible rfl | exact Nat.le_of_ble_eq_true rfl | refine AV.int_congr ?_ | refine AV.str_congr ?_ | (apply rfl)
    · simp only [Int.toNat_natCast]
      rw [h2, val_succ (by omega)]
    · rw [wrap64 (by omega) (by omega)]; rfl
  · exact valA_le4 hi.2 hl
  · rename_i h0 h
    rw [List.take_of_length_le (by omega)] at h
    have hn : numF x = false := by
      cases hn : numF x with
      | false => rfl
      | true => simp only [numF, Bool.and_eq_true] at hn; exact absurd (fmt_of_isNum hn.1) h
    rw [parseF_no hn]
  · rename_i h0 h
    rw [List.take_of_length_le (by omega)] at h hi ⊢
    have hn : numF x = true := by simp [numF, isNum_of_fmt hi.2 h, hl]
    rw [parseF_yes hn]
theorem wrap_val32 {v : Nat} {c : UInt8} (hv : v ≤ 9999) (hc : dig c = true) : IntKind.i64.wrap (IntKind.i64.wrap (10 * (v : Int)) + IntKind.i64.wrap (IntKind.i32.wrap ((c.toNat : Int) - 48))) = ((10 * v + (c.toNat - 48) : Nat) : Int) := by
  have h := dig_range hc
  rw [Go.IntWalk.i32_in _ ⟨by omega, by omega⟩, wrap64 (x := 10 * (v : Int)) (by omega) (by omega), wrap64 (x := (c.toNat : Int) - 48) (by omega) (by omega), wrap64 (by omega) (by omega)]
  omega
/-- no needless nought in front -/
def plainHead (x : Str) : Bool := !(x == [] || (decide (1 < (x.length : Int)) && ((x.getD 0 0).toNat : Int) == 48))
theorem plainHead_no {x : Str} (h : plainHead x = false) : numF x = false := by
  match x, h with
  | [], _ => rfl
  | [c], h => simp [plainHead] at h
  | c :: d :: x, h =>
    have : c = 48 := by
      have h1 : c.toNat = 48 := by simp [plainHead] at h; omega
      rw [← UInt8.ofNat_toNat (x := c), h1]; rfl
    subst this
    simp [numF, isNum]
theorem isNum_of {x : Str} (h : plainHead x = true) (hd : x.all dig = true) : isNum x = true := by
  match x, h, hd with
  | [c], _, hd => simpa [isNum] using hd
  | c :: d :: x, h, hd =>
    simp only [isNum, hd, Bool.true_and, bne_iff_ne, ne_eq]
    rintro rfl
    simp [plainHead] at h; omega
theorem dec_digit {x : Str} {i : Nat} (hi : i < x.length) (h : digit (decodeS x i).1 = true) : dig (x.getD i 0) = true ∧ decodeS x i = ((x.getD i 0).toNat, 1) := by
  rcases dec_cases x i hi with ⟨_, e⟩ | ⟨_, e⟩
  · rw [e] at h; exact ⟨h, e⟩
  · simp [digit] at h; omega
theorem dec_digit_no {x : Str} {i : Nat} (hi : i < x.length) (h : digit (decodeS x i).1 = false) : dig (x.getD i 0) = false := by
  rcases dec_cases x i hi with ⟨_, e⟩ | ⟨e, _⟩
  · rw [e] at h; exact h
  · simp only [dig, digit, Bool.and_eq_false_iff, decide_eq_false_iff_not]; omega
theorem pParseInt.ret (x : Str) (hx : x.length ≤ 1048576) : pParseInt.Ret [.str x] (.tup [.val (.int .i64 (parseF x).1), .val (.bool (parseF x).2)]) [] := by
  refine pParseInt.ofS rfl rfl ?_
  repeat' first
    | (conv => whnf
       first | refine Need.mk (fun h => h) ?_ | refine Need.mk rfl ?_ | refine Need.fin ?_ | refine Fork.mk (fun _ => ?_) (fun _ => ?_) | refine LitO.own rfl ?_ | refine FinVal.keep ?_ | refine Final.mk ?_ rfl)
  · rename_i h
    have : plainHead x = false := by unfold plainHead; rw [Bool.not_eq_false']; exact h
    rw [parseF_no (plainHead_no this)]
  rename_i h
  have hp : plainHead x = true := by unfold plainHead; rw [Bool.not_eq_true']; exact h
  clear h
  skip
  refine ALoop.mk Nat (fun i => ⟨[(0, .str x), (4, .val (.int .i64 (valA 0 (x.take i)))), (20, .bptr 0 0)], [.iter x i], []⟩) (fun i => i ≤ x.length ∧ (x.take i).all dig = true ∧ valA 0 (x.take i) ≤ 9999) (fun i => x.length - i) ⟨0, ⟨Nat.zero_le _, rfl, by simp [valA]⟩, ?_⟩ (fun i hi => ?_)
  · repeat' first
      | exact trivial | refine Weak.mk ?_ ?_ ?_ ?_ (Or.inl (Nat.le_of_ble_eq_true rfl)) | refine And.intro ?_ ?_ | with_reducible rfl | exact Nat.le_of_ble_eq_true rfl | refine AV.int_congr ?_ | refine AV.str_congr ?_ | (apply rfl)
  repeat' first
    | contradiction
    | (conv => whnf
       first | refine Need.mk rfl ?_ | refine Fork.dec (fun _ => ?_) (fun _ => ?_) | refine Fork.neg (fun _ => ?_) (fun _ => ?_) | refine Fork.mk (fun _ => ?_) (fun _ => ?_) | refine Round.mk ?_ | refine LitO.own rfl ?_ | refine FinVal.keep ?_ | refine Final.mk ?_ rfl | refine ACall.scalA _ _ (isDigit.ret _) rfl ?_)
  · rename_i h0 _ h
    rw [parseF_no (digs_no h0 (dec_digit_no h0 h))]
  · rename_i h0 _ h h9
    obtain ⟨hc, e⟩ := dec_digit h0 h
    rw [e, wrap_val32 hi.2.2 hc, ← val_succ h0] at h9
    have hd := digs_succ h0 hi.2.1 hc
    have hn : numF x = false := by
      cases hn : numF x with
      | false => rfl
      | true =>
        exfalso
        simp only [numF, Bool.and_eq_true, decide_eq_true_eq] at hn
        have := valA_le4 hd hn.2
        omega
    rw [parseF_no hn]
  · rename_i h0 _ h h9
    obtain ⟨hc, e⟩ := dec_digit h0 h
    rw [e, wrap_val32 hi.2.2 hc, ← val_succ h0] at h9
    refine ⟨i + 1, ⟨h0, digs_succ h0 hi.2.1 hc, by omega⟩, ?_, by omega⟩
    repeat' first
      | exact trivial | refine Weak.mk ?_ ?_ ?_ ?_ (Or.inl (Nat.le_of_ble_eq_true rfl)) | refine And.intro ?_ ?_ | with_reducible rfl | exact Nat.le_of_ble_eq_true rfl | refine AV.int_congr ?_ | refine AV.str_congr ?_ | (apply rfl)
    · rw [e, wrap_val32 hi.2.2 hc, ← val_succ h0]
    · simp [e]
  · rename_i h0 _
    rw [List.take_of_length_le (by omega)] at hi ⊢
    have h1 := isNum_of hp hi.2.1
    have hn : numF x = true := by simp [numF, h1, isNum_len h1 hi.2.2]
    rw [parseF_yes hn]
end Go.Proofs.Ytplfkocigmnpmaa
namespace Go.Proofs.Ytplfkocigmnpmaa
open Abs
def nameF (x : Str) : Bool := atomF x && letter (x.getD 0 0).toNat
def varF (x : Str) : Bool := decide (1 < (x.length : Int)) && ((x.getD 0 0).toNat : Int) == 63 && atomF (x.drop 1)
theorem atomF_pos {x : Str} (h : atomF x = true) : 1 ≤ x.length := by
  simp only [atomF, Bool.and_eq_true, decide_eq_true_eq] at h; omega
theorem sIsName.ret (x : Str) (hx : x.length ≤ 1048576) : sIsName.Ret [.str x] (.val (.bool (nameF x))) [] := by
  refine sIsName.of rfl ?_
  repeat' first
    | (conv => whnf
       first | refine Need.mk (fun h => h) ?_ | refine Need.mk ?_ ?_ | refine FinVal.keep ?_ | refine Final.mk ?_ rfl | refine ACall.scalA _ _ (sIsAtom.ret _ ?_) rfl ?_ | refine AGCall.mkA _ _ (fun hg => l1In.ret _ _ _) rfl ?_)
    | refine AV.bool_congr ?_
  · exact hx
  · intro h; have := atomF_pos h; omega
  · simp only [nameF, letter, wrap64_byte]; rfl
theorem pIsName.ret (x : Str) (hx : x.length ≤ 1048576) : pIsName.Ret [.str x] (.val (.bool (nameF x))) [] := by
  refine pIsName.of rfl ?_
  repeat' first
    | (conv => whnf
       first | refine Need.mk (fun h => h) ?_ | refine Need.mk ?_ ?_ | refine FinVal.keep ?_ | refine Final.mk ?_ rfl | refine ACall.scalA _ _ (pIsAtom.ret _ ?_) rfl ?_ | refine AGCall.mkA _ _ (fun hg => isLetter.ret _) rfl ?_)
    | refine AV.bool_congr ?_
  · exact hx
  · intro h; have := atomF_pos h; omega
  · simp only [nameF, wrap32_byte]; rfl
end Go.Proofs.Ytplfkocigmnpmaa
namespace Go.Proofs.Ytplfkocigmnpmaa
open Abs
attribute [local irreducible] parseF
@[irreducible] def scmp (a b : Str) : Int := if Op.bytesLess a b then -1 else if a = b then 0 else 1
@[irreducible] def icmp (a b : Int) : Int := if a < b then -1 else if a = b then 0 else 1
def cmpA (a b : Str) : Int :=
  if (parseF a).2 then (if (parseF b).2 then icmp (parseF a).1 (parseF b).1 else -1) else (if (parseF b).2 then 1 else scmp a b)
theorem sCmp.ret (a b : Str) : sCmp.Ret [.str a, .str b] (.val (.int .i64 (scmp a b))) [] := by
  refine sCmp.of rfl ?_
  repeat' first
    | (conv => whnf
       first | refine Fork.neg (fun _ => ?_) (fun _ => ?_) | refine Fork.mk (fun _ => ?_) (fun _ => ?_) | refine FinVal.keep ?_ | refine Final.mk ?_ rfl)
    | refine AV.int_congr ?_
  · rename_i h; simp [scmp, h]
  · rename_i h1 h; simp only [Bool.or_eq_false_iff, beq_eq_false_iff_ne] at h; simp [scmp, h1, h.2]
  · rename_i h1 h; simp only [h1, Bool.false_or, beq_iff_eq] at h; subst h; simp [scmp, bl_irrefl]
theorem isNaNInt.ret (a : Int) : isNaNInt.Ret [.val (.int .i64 a)] (.val (.bool false)) [] := by
  refine isNaNInt.of rfl ?_
  repeat' first
    | (conv => whnf
       first | refine Need.mk rfl ?_ | refine LitO.own rfl ?_ | refine FinVal.keep ?_ | refine Final.mk ?_ rfl)
    | refine AV.bool_congr ?_
  simp
theorem isNaNString.ret (a : Str) : isNaNString.Ret [.str a] (.val (.bool false)) [] := by
  refine isNaNString.of rfl ?_
  repeat' first
    | (conv => whnf
       first | refine FinVal.keep ?_ | refine Final.mk ?_ rfl)
    | refine AV.bool_congr ?_
  simp
theorem cmpInt.ret (a b : Int) : cmpInt.Ret [.val (.int .i64 a), .val (.int .i64 b)] (.val (.int .i64 (icmp a b))) [] := by
  refine cmpInt.of rfl ?_
  repeat' first
    | contradiction
    | (conv => whnf
       first | refine Need.mk rfl ?_ | refine Fork.no (by assumption) ?_ | refine Fork.dec (fun _ => ?_) (fun _ => ?_) | refine Fork.mk (fun _ => ?_) (fun _ => ?_) | refine LitO.own rfl ?_ | refine FinVal.keep ?_ | refine Final.mk ?_ rfl | refine ACall.scalA _ _ (isNaNInt.ret _) rfl ?_)
    | refine AV.int_congr ?_
  · rename_i h; simp [icmp, h]
  · rename_i h1 h; simp only [icmp]; split <;> (try split) <;> omega
  · rename_i h1 h; simp only [icmp]; split <;> (try split) <;> omega
theorem cmpString.ret (a b : Str) : cmpString.Ret [.str a, .str b] (.val (.int .i64 (scmp a b))) [] := by
  refine cmpString.of rfl ?_
  repeat' first
    | contradiction
    | (conv => whnf
       first | refine Fork.no (by assumption) ?_ | refine Fork.neg (fun _ => ?_) (fun _ => ?_) | refine Fork.mk (fun _ => ?_) (fun _ => ?_) | refine FinVal.keep ?_ | refine Final.mk ?_ rfl | refine ACall.scalA _ _ (isNaNString.ret _) rfl ?_)
    | refine AV.int_congr ?_
  · rename_i h; simp [scmp, h]
  · rename_i h1 h; simp only [Bool.or_eq_false_iff, beq_eq_false_iff_ne] at h; simp [scmp, h1, h.2]
  · rename_i h1 h; simp only [h1, Bool.false_or, beq_iff_eq] at h; subst h; simp [scmp, bl_irrefl]
theorem sCompareAtoms.ret (a b : Str) (ha : a.length ≤ 1048576) (hb : b.length ≤ 1048576) : sCompareAtoms.Ret [.str a, .str b] (.val (.int .i64 (cmpA a b))) [] := by
  refine sCompareAtoms.of rfl ?_
  repeat' first
    | (conv => whnf
       first | refine Need.mk (fun h => h) ?_ | refine Need.mk rfl ?_ | refine Fork.yes (by assumption) ?_ | refine Fork.mk (fun _ => ?_) (fun _ => ?_) | refine LitO.own rfl ?_ | refine FinVal.keep ?_ | refine Final.mk ?_ rfl | refine ACall.scalA _ _ (sParseInt.ret _ ?_) rfl ?_ | refine ACall.scalA _ _ (sCmp.ret _ _) rfl ?_)
    | refine AV.int_congr ?_
  · exact ha
  · exact hb
  all_goals unfold cmpA icmp
  all_goals (cases hp : (parseF a).2 <;> cases hq : (parseF b).2)
  all_goals simp only [hp, hq, Bool.true_and, Bool.false_and, Bool.and_true, Bool.and_false, Bool.not_true, Bool.not_false, decide_eq_true_eq, decide_eq_false_iff_not, Bool.false_eq_true, Bool.true_eq_false, reduceIte] at *
  all_goals (first | rfl | (split <;> (try split) <;> omega))
theorem pCompareAtoms.ret (a b : Str) (ha : a.length ≤ 1048576) (hb : b.length ≤ 1048576) : pCompareAtoms.Ret [.str a, .str b] (.val (.int .i64 (cmpA a b))) [] := by
  refine pCompareAtoms.of rfl ?_
  repeat' first
    | (conv => whnf
       first | refine Need.mk (fun h => h) ?_ | refine Fork.mk (fun _ => ?_) (fun _ => ?_) | refine FinVal.keep ?_ | refine Final.mk ?_ rfl | refine ACall.scalA _ _ (pParseInt.ret _ ?_) rfl ?_ | refine ACall.scalA _ _ (cmpInt.ret _ _) rfl ?_ | refine ACall.scalA _ _ (cmpString.ret _ _) rfl ?_)
    | refine AV.int_congr ?_
  · exact ha
  · exact hb
  all_goals simp_all [cmpA]
end Go.Proofs.Ytplfkocigmnpmaa
namespace Go.Proofs.Ytplfkocigmnpmaa
open Abs
def sIsFact.code : ACode := (.seq (.region false [s 1 (.box (t 0)), s 2 (.mv (.const (.bool false)))]) (.seq (.seq (.region false [s 3 (.mv (.const (.int .i64 0)))]) (.block 0 (.loop (.seq (.seq (.region false [s 4 (.mv (t 3)), s 5 (.fadr 1 (t 1)), s 6 (.load false 1 (t 5)), s 7 (.len false (t 6)), s 8 (.bin .lss (t 4) (t 7))]) (.cond (t 8) .skip (.exit 0))) (.seq (.block 1 (.seq (.region false [s 11 (.fadr 1 (t 1)), s 12 (.load false 1 (t 11)), s 13 (.mv (t 3)), s 14 (.iadr 1 (t 12) (t 13)), s 15 (.load false 1 (t 14)), s 16 (.call 118 [(t 15)]), s 17 (.not (t 16))]) (.cond (t 17) (.seq (.region false [s 2 (.mv (.const (.bool false)))]) .ret) .skip))) (.region false [s 9 (.mv (t 3)), s 10 (.bin .add (t 9) (.const (.int .i64 1))), s 3 (.mv (t 10))])))))) (.seq (.region false [s 18 (.fadr 0 (t 1)), s 19 (.load false 1 (t 18)), s 20 (.call 119 [(t 19)]), s 21 (.mv (t 20)), g 21 true 22 (.fadr 1 (t 1)), g 21 true 23 (.load false 1 (t 22)), g 21 true 24 (.len false (t 23)), g 21 true 25 (.bin .leq (t 24) (.const (.int .i64 3))), s 26 (.and (t 21) (t 25)), s 2 (.mv (t 26))]) .ret)))
def sIsFact.keep : List Nat := [0, 1, 2, 3]
def sIsFact.res : List RRes := [.tmp 2]
theorem sIsFact.of {mo : Bool} {args : List AV} {r : AV} {frs : Fr} (hn : Nat.ble args.length Try.f96.ntmps = true) (h : aCode (Kn mo Try.prog) sIsFact.keep 0 sIsFact.code (doneK sIsFact.res r frs) ⟨argEnv 0 args, [], []⟩) : Abs.Ret mo Try.prog 96 args r frs :=
  Abs.Ret.of_ir Try.func96 rfl (by kernel_rfl) (Nat.le_of_ble_eq_true hn) (by kernel_rfl) (by kernel_rfl) h
abbrev sIsFact.Ret (args : List AV) (r : AV) (frs : Fr) : Prop := Abs.Ret true Try.prog 96 args r frs
def pIsFact.code : ACode := (.seq (.region false [s 1 (.box (t 0)), s 2 (.mv (.const (.bool false)))]) (.seq (.region false [s 3 (.fadr 0 (t 1)), s 4 (.load false 1 (t 3)), s 5 (.fadr 1 (t 1)), s 6 (.load false 1 (t 5)), s 7 (.call 122 [(t 4), (t 6), (.func 123)]), s 2 (.mv (t 7))]) .ret))
def pIsFact.keep : List Nat := [0, 1, 2]
def pIsFact.res : List RRes := [.tmp 2]
theorem pIsFact.of {mo : Bool} {args : List AV} {r : AV} {frs : Fr} (hn : Nat.ble args.length Try.f98.ntmps = true) (h : aCode (Kn mo Try.prog) pIsFact.keep 0 pIsFact.code (doneK pIsFact.res r frs) ⟨argEnv 0 args, [], []⟩) : Abs.Ret mo Try.prog 98 args r frs :=
  Abs.Ret.of_ir Try.func98 rfl (by kernel_rfl) (Nat.le_of_ble_eq_true hn) (by kernel_rfl) (by kernel_rfl) h
abbrev pIsFact.Ret (args : List AV) (r : AV) (frs : Fr) : Prop := Abs.Ret true Try.prog 98 args r frs
def sCompareFacts.code : ACode := (.seq (.region false [s 2 (.box (t 0)), s 3 (.box (t 1)), s 4 (.mv (.const (.int .i64 0)))]) (.seq (.seq (.region false [s 7 (.fadr 0 (t 2)), s 8 (.load false 1 (t 7)), s 9 (.fadr 0 (t 3)), s 10 (.load false 1 (t 9)), s 11 (.bin .neq (t 8) (t 10))]) (.cond (t 11) (.seq (.region false [s 12 (.fadr 0 (t 2)), s 13 (.load false 1 (t 12)), s 14 (.fadr 0 (t 3)), s 15 (.load false 1 (t 14)), s 16 (.call 120 [(t 13), (t 15)]), s 4 (.mv (t 16))]) .ret) .skip)) (.seq (.seq (.region false [s 5 (.mv (.const (.int .i64 0)))]) (.block 0 (.loop (.seq (.seq (.region false [s 17 (.mv (t 5)), s 18 (.fadr 1 (t 2)), s 19 (.load false 1 (t 18)), s 20 (.len false (t 19)), s 21 (.bin .lss (t 17) (t 20)), s 22 (.mv (t 21)), g 22 true 23 (.mv (t 5)), g 22 true 24 (.fadr 1 (t 3)), g 22 true 25 (.load false 1 (t 24)), g 22 true 26 (.len false (t 25)), g 22 true 27 (.bin .lss (t 23) (t 26)), s 28 (.and (t 22) (t 27))]) (.cond (t 28) .skip (.exit 0))) (.seq (.block 1 (.seq (.region true [s 31 (.fadr 1 (t 2)), s 32 (.load false 1 (t 31)), s 33 (.mv (t 5)), s 34 (.iadr 1 (t 32) (t 33)), s 35 (.load false 1 (t 34)), s 36 (.fadr 1 (t 3)), s 37 (.load false 1 (t 36)), s 38 (.mv (t 5)), s 39 (.iadr 1 (t 37) (t 38)), s 40 (.load false 1 (t 39)), s 41 (.call 121 [(t 35), (t 40)]), s 6 (.mv (t 41))]) (.seq (.region false [s 42 (.mv (t 6)), s 43 (.bin .neq (t 42) (.const (.int .i64 0)))]) (.cond (t 43) (.seq (.region false [s 44 (.mv (t 6)), s 4 (.mv (t 44))]) .ret) .skip)))) (.region false [s 29 (.mv (t 5)), s 30 (.bin .add (t 29) (.const (.int .i64 1))), s 5 (.mv (t 30))])))))) (.seq (.block 2 (.seq (.region false [s 46 (.fadr 1 (t 2)), s 47 (.load false 1 (t 46)), s 48 (.len false (t 47)), s 49 (.fadr 1 (t 3)), s 50 (.load false 1 (t 49)), s 51 (.len false (t 50)), s 52 (.bin .lss (t 48) (t 51)), s 45 (.mv (t 52))]) (.cond (t 45) (.seq (.region false [s 4 (.mv (.const (.int .i64 (-1))))]) .ret) (.seq (.region false [s 54 (.fadr 1 (t 2)), s 55 (.load false 1 (t 54)), s 56 (.len false (t 55)), s 57 (.fadr 1 (t 3)), s 58 (.load false 1 (t 57)), s 59 (.len false (t 58)), s 60 (.bin .gtr (t 56) (t 59)), s 53 (.mv (t 60))]) (.cond (t 53) (.seq (.region false [s 4 (.mv (.const (.int .i64 1)))]) .ret) .skip))))) (.seq (.region false [s 4 (.mv (.const (.int .i64 0)))]) .ret)))))
def sCompareFacts.keep : List Nat := [0, 1, 2, 3, 4, 5, 6]
def sCompareFacts.res : List RRes := [.tmp 4]
theorem sCompareFacts.of {mo : Bool} {args : List AV} {r : AV} {frs : Fr} (hn : Nat.ble args.length Try.f97.ntmps = true) (h : aCode (Kn mo Try.prog) sCompareFacts.keep 0 sCompareFacts.code (doneK sCompareFacts.res r frs) ⟨argEnv 0 args, [], []⟩) : Abs.Ret mo Try.prog 97 args r frs :=
  Abs.Ret.of_ir Try.func97 rfl (by kernel_rfl) (Nat.le_of_ble_eq_true hn) (by kernel_rfl) (by kernel_rfl) h
abbrev sCompareFacts.Ret (args : List AV) (r : AV) (frs : Fr) : Prop := Abs.Ret true Try.prog 97 args r frs
def pCompareFacts.code : ACode := (.seq (.region false [s 2 (.box (t 0)), s 3 (.box (t 1)), s 4 (.mv (.const (.int .i64 0)))]) (.seq (.seq (.region false [s 6 (.fadr 0 (t 2)), s 7 (.load false 1 (t 6)), s 8 (.fadr 0 (t 3)), s 9 (.load false 1 (t 8)), s 10 (.call 124 [(t 7), (t 9)]), s 5 (.mv (t 10))]) (.seq (.region false [s 11 (.mv (t 5)), s 12 (.bin .neq (t 11) (.const (.int .i64 0)))]) (.cond (t 12) (.seq (.region false [s 13 (.mv (t 5)), s 4 (.mv (t 13))]) .ret) .skip))) (.seq (.region false [s 14 (.fadr 1 (t 2)), s 15 (.load false 1 (t 14)), s 16 (.fadr 1 (t 3)), s 17 (.load false 1 (t 16)), s 18 (.call 125 [(t 15), (t 17), (.func 126)]), s 4 (.mv (t 18))]) .ret)))
def pCompareFacts.keep : List Nat := [0, 1, 2, 3, 4, 5]
def pCompareFacts.res : List RRes := [.tmp 4]
theorem pCompareFacts.of {mo : Bool} {args : List AV} {r : AV} {frs : Fr} (hn : Nat.ble args.length Try.f99.ntmps = true) (h : aCode (Kn mo Try.prog) pCompareFacts.keep 0 pCompareFacts.code (doneK pCompareFacts.res r frs) ⟨argEnv 0 args, [], []⟩) : Abs.Ret mo Try.prog 99 args r frs :=
  Abs.Ret.of_ir Try.func99 rfl (by kernel_rfl) (Nat.le_of_ble_eq_true hn) (by kernel_rfl) (by kernel_rfl) h
abbrev pCompareFacts.Ret (args : List AV) (r : AV) (frs : Fr) : Prop := Abs.Ret true Try.prog 99 args r frs
def sAreFacts.code : ACode := (.seq (.region false [s 2 (.mv (.const (.bool false)))]) (.seq (.seq (.region false [s 3 (.mv (.const (.int .i64 0)))]) (.block 0 (.loop (.seq (.seq (.region false [s 4 (.mv (t 3)), s 5 (.mv (t 0)), s 6 (.len false (t 5)), s 7 (.bin .lss (t 4) (t 6))]) (.cond (t 7) .skip (.exit 0))) (.seq (.block 1 (.seq (.region true [s 10 (.mv (t 0)), s 11 (.mv (t 3)), s 12 (.iadr 2 (t 10) (t 11)), s 13 (.load true 2 (t 12)), s 14 (.call 96 [(t 13)]), s 15 (.not (t 14)), s 16 (.mv (t 15)), g 16 false 17 (.mv (t 3)), g 16 false 18 (.bin .gtr (t 17) (.const (.int .i64 0))), g 16 false 19 (.mv (t 18)), g 19 true 20 (.mv (t 0)), g 19 true 21 (.mv (t 3)), g 19 true 22 (.bin .sub (t 21) (.const (.int .i64 1))), g 19 true 23 (.iadr 2 (t 20) (t 22)), g 19 true 24 (.load true 2 (t 23)), g 19 true 25 (.mv (t 0)), g 19 true 26 (.mv (t 3)), g 19 true 27 (.iadr 2 (t 25) (t 26)), g 19 true 28 (.load true 2 (t 27)), g 19 true 29 (.call 97 [(t 24), (t 28)]), g 19 true 30 (.bin .geq (t 29) (.const (.int .i64 0))), g 16 false 31 (.and (t 19) (t 30)), s 32 (.or (t 16) (t 31))]) (.cond (t 32) (.seq (.region false [s 2 (.mv (.const (.bool false)))]) .ret) .skip))) (.region false [s 8 (.mv (t 3)), s 9 (.bin .add (t 8) (.const (.int .i64 1))), s 3 (.mv (t 9))])))))) (.seq (.region false [s 33 (.mv (t 0)), s 34 (.len false (t 33)), s 35 (.bin .leq (t 34) (.const (.int .i64 24))), s 2 (.mv (t 35))]) .ret)))
def sAreFacts.keep : List Nat := [0, 2, 3]
def sAreFacts.res : List RRes := [.tmp 2]
theorem sAreFacts.of {mo : Bool} {args : List AV} {r : AV} {frs : Fr} (hn : Nat.ble args.length Try.f65.ntmps = true) (h : aCode (Kn mo Try.prog) sAreFacts.keep 0 sAreFacts.code (doneK sAreFacts.res r frs) ⟨argEnv 0 args, [], []⟩) : Abs.Ret mo Try.prog 65 args r frs :=
  Abs.Ret.of_ir Try.func65 rfl (by kernel_rfl) (Nat.le_of_ble_eq_true hn) (by kernel_rfl) (by kernel_rfl) h
abbrev sAreFacts.Ret (args : List AV) (r : AV) (frs : Fr) : Prop := Abs.Ret true Try.prog 65 args r frs
def pAreFacts.code : ACode := (.seq (.region false [s 2 (.mv (.const (.bool false)))]) (.seq (.seq (.region false [s 5 (.mv (t 0)), s 6 (.len false (t 5)), s 7 (.bin .gtr (t 6) (.const (.int .i64 24)))]) (.cond (t 7) (.seq (.region false [s 2 (.mv (.const (.bool false)))]) .ret) .skip)) (.seq (.seq (.region false [s 8 (.mv (t 0)), s 9 (.len false (t 8)), s 10 (.mv (.const (.int .i64 0)))]) (.block 0 (.loop (.seq (.region false [s 11 (.bin .lss (t 10) (t 9))]) (.seq (.cond (t 11) .skip (.exit 0)) (.seq (.block 1 (.seq (.region false [s 12 (.mv (t 10)), s 13 (.iadr 2 (t 8) (t 10)), s 14 (.load true 2 (t 13)), s 4 (.alloc [(.string (.mk (.mk []))), (.slice none 0 0)]), s 3 (.mv (t 12)), ⟨none, none, (.store 2 (t 4) (t 14))⟩]) (.seq (.region true [s 15 (.load true 2 (t 4)), s 16 (.call 98 [(t 15)]), s 17 (.not (t 16)), s 18 (.mv (t 17)), g 18 false 19 (.mv (t 3)), g 18 false 20 (.bin .gtr (t 19) (.const (.int .i64 0))), g 18 false 21 (.mv (t 20)), g 21 true 22 (.mv (t 0)), g 21 true 23 (.mv (t 3)), g 21 true 24 (.bin .sub (t 23) (.const (.int .i64 1))), g 21 true 25 (.iadr 2 (t 22) (t 24)), g 21 true 26 (.load true 2 (t 25)), g 21 true 27 (.load true 2 (t 4)), g 21 true 28 (.call 99 [(t 26), (t 27)]), g 21 true 29 (.bin .geq (t 28) (.const (.int .i64 0))), g 18 false 30 (.and (t 21) (t 29)), s 31 (.or (t 18) (t 30))]) (.cond (t 31) (.seq (.region false [s 2 (.mv (.const (.bool false)))]) .ret) .skip)))) (.region false [s 32 (.bin .add (t 10) (.const (.int .i64 1))), s 10 (.mv (t 32))]))))))) (.seq (.region false [s 2 (.mv (.const (.bool true)))]) .ret))))
def pAreFacts.keep : List Nat := [0, 2, 3, 4, 8, 9, 10, 11]
def pAreFacts.res : List RRes := [.tmp 2]
theorem pAreFacts.of {mo : Bool} {args : List AV} {r : AV} {frs : Fr} (hn : Nat.ble args.length Try.f66.ntmps = true) (h : aCode (Kn mo Try.prog) pAreFacts.keep 0 pAreFacts.code (doneK pAreFacts.res r frs) ⟨argEnv 0 args, [], []⟩) : Abs.Ret mo Try.prog 66 args r frs :=
  Abs.Ret.of_ir Try.func66 rfl (by kernel_rfl) (Nat.le_of_ble_eq_true hn) (by kernel_rfl) (by kernel_rfl) h
abbrev pAreFacts.Ret (args : List AV) (r : AV) (frs : Fr) : Prop := Abs.Ret true Try.prog 66 args r frs
def sSame.code : ACode := (.seq (.region false [s 2 (.box (t 0)), s 3 (.box (t 1)), s 4 (.mv (.const (.bool false)))]) (.seq (.region false [s 5 (.fadr 0 (t 2)), s 6 (.load false 1 (t 5)), s 7 (.fadr 0 (t 3)), s 8 (.load false 1 (t 7)), s 9 (.bin .eql (t 6) (t 8)), s 10 (.mv (t 9)), g 10 true 11 (.fadr 1 (t 2)), g 10 true 12 (.load false 1 (t 11)), g 10 true 13 (.fadr 1 (t 3)), g 10 true 14 (.load false 1 (t 13)), g 10 true 15 (.call 100 [(t 12), (t 14)]), s 16 (.and (t 10) (t 15)), s 4 (.mv (t 16))]) .ret))
def sSame.keep : List Nat := [0, 1, 2, 3, 4]
def sSame.res : List RRes := [.tmp 4]
theorem sSame.of {mo : Bool} {args : List AV} {r : AV} {frs : Fr} (hn : Nat.ble args.length Try.f68.ntmps = true) (h : aCode (Kn mo Try.prog) sSame.keep 0 sSame.code (doneK sSame.res r frs) ⟨argEnv 0 args, [], []⟩) : Abs.Ret mo Try.prog 68 args r frs :=
  Abs.Ret.of_ir Try.func68 rfl (by kernel_rfl) (Nat.le_of_ble_eq_true hn) (by kernel_rfl) (by kernel_rfl) h
abbrev sSame.Ret (args : List AV) (r : AV) (frs : Fr) : Prop := Abs.Ret true Try.prog 68 args r frs
def sCopy.code : ACode := (.seq (.region false [s 1 (.box (t 0)), s 2 (.alloc [(.string (.mk (.mk []))), (.slice none 0 0)])]) (.seq (.held [s 3 (.fadr 0 (t 1)), s 4 (.load false 1 (t 3)), s 5 (.fadr 1 (t 1)), s 6 (.load false 1 (t 5)), s 7 (.call 94 [(t 6)])] [s 8 (.build [(.string (.mk (.mk []))), (.slice none 0 0)] [(0, 1), (1, 1)] [(t 4), (t 7)]), ⟨none, none, (.store 2 (t 2) (t 8))⟩]) .ret))
def sCopy.keep : List Nat := [0, 1, 2]
def sCopy.res : List RRes := [.cell 2 true 2]
theorem sCopy.of {mo : Bool} {args : List AV} {r : AV} {frs : Fr} (hn : Nat.ble args.length Try.f57.ntmps = true) (h : aCode (Kn mo Try.prog) sCopy.keep 0 sCopy.code (doneK sCopy.res r frs) ⟨argEnv 0 args, [], []⟩) : Abs.Ret mo Try.prog 57 args r frs :=
  Abs.Ret.of_ir Try.func57 rfl (by kernel_rfl) (Nat.le_of_ble_eq_true hn) (by kernel_rfl) (by kernel_rfl) h
abbrev sCopy.Ret (args : List AV) (r : AV) (frs : Fr) : Prop := Abs.Ret true Try.prog 57 args r frs
def psameFact.code : ACode := (.seq (.region false [s 2 (.box (t 0)), s 3 (.box (t 1)), s 4 (.mv (.const (.bool false)))]) (.seq (.region false [s 5 (.fadr 0 (t 2)), s 6 (.load false 1 (t 5)), s 7 (.fadr 0 (t 3)), s 8 (.load false 1 (t 7)), s 9 (.bin .eql (t 6) (t 8)), s 10 (.mv (t 9)), g 10 true 11 (.fadr 1 (t 2)), g 10 true 12 (.load false 1 (t 11)), g 10 true 13 (.fadr 1 (t 3)), g 10 true 14 (.load false 1 (t 13)), g 10 true 15 (.call 101 [(t 12), (t 14)]), s 16 (.and (t 10) (t 15)), s 4 (.mv (t 16))]) .ret))
def psameFact.keep : List Nat := [0, 1, 2, 3, 4]
def psameFact.res : List RRes := [.tmp 4]
theorem psameFact.of {mo : Bool} {args : List AV} {r : AV} {frs : Fr} (hn : Nat.ble args.length Try.f70.ntmps = true) (h : aCode (Kn mo Try.prog) psameFact.keep 0 psameFact.code (doneK psameFact.res r frs) ⟨argEnv 0 args, [], []⟩) : Abs.Ret mo Try.prog 70 args r frs :=
  Abs.Ret.of_ir Try.func70 rfl (by kernel_rfl) (Nat.le_of_ble_eq_true hn) (by kernel_rfl) (by kernel_rfl) h
abbrev psameFact.Ret (args : List AV) (r : AV) (frs : Fr) : Prop := Abs.Ret true Try.prog 70 args r frs
def pcopyFact.code : ACode := (.seq (.region false [s 1 (.box (t 0)), s 2 (.alloc [(.string (.mk (.mk []))), (.slice none 0 0)])]) (.seq (.held [s 3 (.fadr 0 (t 1)), s 4 (.load false 1 (t 3)), s 5 (.fadr 1 (t 1)), s 6 (.load false 1 (t 5)), s 7 (.call 95 [(t 6)])] [s 8 (.build [(.string (.mk (.mk []))), (.slice none 0 0)] [(0, 1), (1, 1)] [(t 4), (t 7)]), ⟨none, none, (.store 2 (t 2) (t 8))⟩]) .ret))
def pcopyFact.keep : List Nat := [0, 1, 2]
def pcopyFact.res : List RRes := [.cell 2 true 2]
theorem pcopyFact.of {mo : Bool} {args : List AV} {r : AV} {frs : Fr} (hn : Nat.ble args.length Try.f59.ntmps = true) (h : aCode (Kn mo Try.prog) pcopyFact.keep 0 pcopyFact.code (doneK pcopyFact.res r frs) ⟨argEnv 0 args, [], []⟩) : Abs.Ret mo Try.prog 59 args r frs :=
  Abs.Ret.of_ir Try.func59 rfl (by kernel_rfl) (Nat.le_of_ble_eq_true hn) (by kernel_rfl) (by kernel_rfl) h
abbrev pcopyFact.Ret (args : List AV) (r : AV) (frs : Fr) : Prop := Abs.Ret true Try.prog 59 args r frs
end Go.Proofs.Ytplfkocigmnpmaa
namespace Go.Proofs.Ytplfkocigmnpmaa
open Abs
def isFactF (f : Fct) : Bool := nameF f.1 && decide ((f.2.length : Int) ≤ 3) && f.2.all atomF
theorem allA_no {x : List Str} {i : Nat} (hi : i < x.length) (h : atomF (x.getD i []) = false) : x.all atomF = false := by
  rw [List.all_eq_false]
  refine ⟨x.getD i [], ?_, by rw [h]; simp⟩
  simp [List.getD, hi]
theorem allA_succ {x : List Str} {i : Nat} (hi : i < x.length) (h : (x.take i).all atomF = true) (hc : atomF (x.getD i []) = true) : (x.take (i + 1)).all atomF = true := by
  rw [take_succ' [] hi, List.all_append, h]; simpa using hc
theorem sIsFact.ret (f : Fct) (h : tFct.size f ≤ 1048576) : sIsFact.Ret [.agg (oldL (tFct.q f))] (.val (.bool (isFactF f))) [] := by
  refine sIsFact.of rfl ?_
  rw [tFct_size, tStrs_size] at h
  skip
  refine ALoop.mk Nat (fun i => ⟨[(1, .bptr 0 0), (3, .val (.int .i64 i))], [.cells .var (oldL (tFct.q f))], []⟩) (fun i => i ≤ f.2.length ∧ (f.2.take i).all atomF = true) (fun i => f.2.length - i) ⟨0, ⟨Nat.zero_le _, rfl⟩, ?_⟩ (fun i hi => ?_)
  · repeat' first
      | exact trivial | refine Weak.mk ?_ ?_ ?_ ?_ (Or.inl (Nat.le_of_ble_eq_true rfl)) | refine And.intro ?_ ?_ | with_reducible rfl | exact Nat.le_of_ble_eq_true rfl | refine AV.int_congr ?_ | (apply rfl)
  repeat' first
    | (conv => whnf
       first | refine Need.mk (fun h => h) ?_ | refine Need.mk rfl ?_ | refine Ix.strsF rfl ?_ | refine Fork.dec (fun _ => ?_) (fun _ => ?_) | refine Fork.neg (fun _ => ?_) (fun _ => ?_) | refine Round.mk ?_ | refine LitO.own rfl ?_ | refine FinVal.keep ?_ | refine Final.mk ?_ rfl | refine ACall.scalA _ _ (sIsAtom.ret _ ?_) rfl ?_ | refine ACall.scalA _ _ (sIsName.ret _ ?_) rfl ?_)
    | refine AV.bool_congr ?_
  all_goals try simp only [length_rows, length_strs, length_oldLL, List.length_map, Int.toNat_natCast] at *
  · have := str_le (l := f.2) (i := i) (by omega); omega
  · rename_i h2 h1
    simp [isFactF, allA_no (by omega) h2]
  · rename_i h2 h1
    refine ⟨i + 1, ⟨by omega, allA_succ (by omega) hi.2 h2⟩, ?_, by omega⟩
    repeat' first
      | exact trivial | refine Weak.mk ?_ ?_ ?_ ?_ (Or.inl (Nat.le_of_ble_eq_true rfl)) | refine And.intro ?_ ?_ | with_reducible rfl | exact Nat.le_of_ble_eq_true rfl | refine AV.int_congr ?_ | (apply rfl)
    rw [wrap64 (by omega) (by omega)]; rfl
  · omega
  · have := hi.2
    rw [List.take_of_length_le (by omega)] at this
    simp [isFactF, this]
def cmpArgs : List Str → List Str → Int
  | [], [] => 0
  | [], _ :: _ => -1
  | _ :: _, [] => 1
  | a :: l, b :: m => if cmpA a b ≠ 0 then cmpA a b else cmpArgs l m
@[irreducible] def cmpF (f g : Fct) : Int := if f.1 = g.1 then cmpArgs f.2 g.2 else scmp f.1 g.1
theorem scmp_zero {a b : Str} : scmp a b = 0 ↔ a = b := by
  unfold scmp
  constructor
  · intro h
    split at h
    · omega
    · split at h
      · assumption
      · omega
  · rintro rfl; simp [bl_irrefl]
theorem cmpArgs_drop {l m : List Str} {i : Nat} (h1 : i < l.length) (h2 : i < m.length) :
    cmpArgs (l.drop i) (m.drop i) = if cmpA (l.getD i []) (m.getD i []) ≠ 0 then cmpA (l.getD i []) (m.getD i []) else cmpArgs (l.drop (i + 1)) (m.drop (i + 1)) := by
  rw [List.drop_eq_getElem_cons h1, List.drop_eq_getElem_cons h2, cmpArgs]
  simp [List.getD, h1, h2]
theorem cmpArgs_end {l m : List Str} (h : l = [] ∨ m = []) : cmpArgs l m = if l.length < m.length then -1 else if m.length < l.length then 1 else 0 := by
  cases l <;> cases m <;> simp_all [cmpArgs]
theorem sCompareFacts.ret (f g : Fct) (h : tFct.size f ≤ 1048576) (h' : tFct.size g ≤ 1048576) : sCompareFacts.Ret [.agg (oldL (tFct.q f)), .agg (oldL (tFct.q g))] (.val (.int .i64 (cmpF f g))) [] := by
  refine sCompareFacts.of rfl ?_
  rw [tFct_size, tStrs_size] at h h'
  repeat' first
    | (conv => whnf
       first | refine Fork.sne (fun _ => ?_) (fun _ => ?_) | refine FinVal.keep ?_ | refine Final.mk ?_ rfl | refine ACall.scalA _ _ (sCmp.ret _ _) rfl ?_)
    | refine AV.int_congr ?_
  · rename_i h1
    unfold cmpF; rw [if_neg h1]
  rename_i h1
  skip
  refine ALoop.mk Nat (fun i => ⟨[(2, .bptr 0 0), (3, .bptr 1 0), (5, .val (.int .i64 i))], [.cells .var (oldL (tFct.q f)), .cells .var (oldL (tFct.q g))], []⟩) (fun i => i ≤ f.2.length ∧ i ≤ g.2.length ∧ cmpArgs (f.2.drop i) (g.2.drop i) = cmpF f g) (fun i => f.2.length - i) ⟨0, ⟨Nat.zero_le _, Nat.zero_le _, by unfold cmpF; rw [if_pos h1]; rfl⟩, ?_⟩ (fun i hi => ?_)
  · repeat' first
      | exact trivial | refine Weak.mk ?_ ?_ ?_ ?_ (Or.inl (Nat.le_of_ble_eq_true rfl)) | refine And.intro ?_ ?_ | with_reducible rfl | exact Nat.le_of_ble_eq_true rfl | refine AV.int_congr ?_ | (apply rfl)
  obtain ⟨hi1, hi2, hi3⟩ := hi
  repeat' first
    | (conv => whnf
       first | refine Need.mk (fun h => h) ?_ | refine Need.mk rfl ?_ | refine Ix.strsF rfl ?_ | refine Fork.dec (fun _ => ?_) (fun _ => ?_) | refine Fork.bne (fun _ => ?_) (fun _ => ?_) | refine Fork.mk (fun _ => ?_) (fun _ => ?_) | refine Round.mk ?_ | refine LitO.own rfl ?_ | refine FinVal.keep ?_ | refine Final.mk ?_ rfl | refine AQCall.mkA _ _ (fun hg => sCompareAtoms.ret _ _ ?_ ?_) rfl ?_)
    | refine AV.int_congr ?_
  all_goals try simp only [length_rows, length_strs, length_oldLL, List.length_map, Int.toNat_natCast] at *
  · simp only [Bool.and_eq_true, decide_eq_true_eq] at *
    have := str_le (l := f.2) (i := i) (by omega); omega
  · simp only [Bool.and_eq_true, decide_eq_true_eq] at *
    have := str_le (l := g.2) (i := i) (by omega); omega
  · rename_i h2 h3
    simp only [Bool.and_eq_true, decide_eq_true_eq] at h3
    rw [← hi3, cmpArgs_drop (by omega) (by omega), if_pos h2]
  · rename_i h2 h3
    simp only [Bool.and_eq_true, decide_eq_true_eq] at h3
    refine ⟨i + 1, ⟨by omega, by omega, ?_⟩, ?_, by omega⟩
    · rw [cmpArgs_drop (by omega) (by omega), if_neg (by simpa using h2)] at hi3; exact hi3
    · repeat' first
        | exact trivial | refine Weak.mk ?_ ?_ ?_ ?_ (Or.inl (Nat.le_of_ble_eq_true rfl)) | refine And.intro ?_ ?_ | with_reducible rfl | exact Nat.le_of_ble_eq_true rfl | refine AV.int_congr ?_ | (apply rfl)
      rw [wrap64 (by omega) (by omega)]; rfl
  all_goals rename_i h2
  all_goals simp only [Bool.and_eq_false_iff, decide_eq_false_iff_not] at *
  all_goals rw [← hi3, cmpArgs_end (by rw [List.drop_eq_nil_iff, List.drop_eq_nil_iff]; omega)]
  all_goals simp only [List.length_drop]
  all_goals ((repeat' split) <;> omega)
end Go.Proofs.Ytplfkocigmnpmaa
namespace Go.Proofs.Ytplfkocigmnpmaa
open Abs
def pisTuple.code : ACode := (.seq (.region false [s 6 (.mv (.const (.bool false)))]) (.seq (.seq (.region false [s 9 (.mv (t 0)), s 10 (.call 136 [(t 9)]), s 11 (.not (t 10)), s 12 (.mv (t 11)), g 12 false 13 (.mv (t 1)), g 12 false 14 (.len false (t 13)), g 12 false 15 (.bin .gtr (t 14) (.const (.int .i64 3))), s 16 (.or (t 12) (t 15))]) (.cond (t 16) (.seq (.region false [s 6 (.mv (.const (.bool false)))]) .ret) .skip)) (.seq (.seq (.region false [s 17 (.mv (t 1)), s 18 (.len false (t 17)), s 19 (.mv (.const (.int .i64 0)))]) (.block 0 (.loop (.seq (.region false [s 20 (.bin .lss (t 19) (t 18))]) (.seq (.cond (t 20) .skip (.exit 0)) (.seq (.block 1 (.seq (.region false [s 21 (.iadr 1 (t 17) (t 19)), s 22 (.load false 1 (t 21)), s 8 (.mv (t 22))]) (.seq (.region false [s 23 (.mv (t 2)), s 24 (.mv (t 8)), s 25 (.callv (t 23) [(t 24)]), s 26 (.not (t 25))]) (.cond (t 26) (.seq (.region false [s 6 (.mv (.const (.bool false)))]) .ret) .skip)))) (.region false [s 27 (.bin .add (t 19) (.const (.int .i64 1))), s 19 (.mv (t 27))]))))))) (.seq (.region false [s 6 (.mv (.const (.bool true)))]) .ret))))
def pisTuple.keep : List Nat := [0, 1, 2, 6, 8, 17, 18, 19, 20]
def pisTuple.res : List RRes := [.tmp 6]
theorem pisTuple.of {mo : Bool} {args : List AV} {r : AV} {frs : Fr} (hn : Nat.ble args.length Try.f122.ntmps = true) (h : aCode (Kn mo Try.prog) pisTuple.keep 0 pisTuple.code (doneK pisTuple.res r frs) ⟨argEnv 0 args, [], []⟩) : Abs.Ret mo Try.prog 122 args r frs :=
  Abs.Ret.of_ir Try.func122 rfl (by kernel_rfl) (Nat.le_of_ble_eq_true hn) (by kernel_rfl) (by kernel_rfl) h
abbrev pisTuple.Ret (args : List AV) (r : AV) (frs : Fr) : Prop := Abs.Ret true Try.prog 122 args r frs
end Go.Proofs.Ytplfkocigmnpmaa
namespace Go.Proofs.Ytplfkocigmnpmaa
open Abs
theorem allQ_no {q : Str → Bool} {x : List Str} {i : Nat} (hi : i < x.length) (h : q (x.getD i []) = false) : x.all q = false := by
  rw [List.all_eq_false]
  refine ⟨x.getD i [], ?_, by rw [h]; simp⟩
  simp [List.getD, hi]
theorem allQ_succ {q : Str → Bool} {x : List Str} {i : Nat} (hi : i < x.length) (h : (x.take i).all q = true) (hc : q (x.getD i []) = true) : (x.take (i + 1)).all q = true := by
  rw [take_succ' [] hi, List.all_append, h]; simpa using hc
def tupF (q : Str → Bool) (f : Fct) : Bool := nameF f.1 && decide ((f.2.length : Int) ≤ 3) && f.2.all q
theorem pisTuple.ret (q : Str → Bool) (F : Nat) (hq : ∀ s : Str, s.length ≤ 1048576 → Abs.Ret true Try.prog F [.str s] (.val (.bool (q s))) []) (r : Str) (l : List Str) (h : r.length + listSize Ty.str l ≤ 1048576) (hl : l.length ≤ 1048576) :
    pisTuple.Ret [.str r, .list none (strs l), .clo F [] []] (.val (.bool (tupF q (r, l)))) [] := by
  refine pisTuple.of rfl ?_
  repeat' first
    | (conv => whnf
       first | refine Need.mk (fun h => h) ?_ | refine Need.mk rfl ?_ | refine Fork.mk (fun _ => ?_) (fun _ => ?_) | refine LitO.own rfl ?_ | refine FinVal.keep ?_ | refine Final.mk ?_ rfl | refine ACall.scalA _ _ (pIsName.ret _ ?_) rfl ?_)
    | refine AV.bool_congr ?_
  · omega
  · rename_i h1
    simp only [length_strs] at h1
    unfold tupF
    cases hn : nameF r
    · simp
    · rw [hn] at h1
      have : ¬ (l.length : Int) ≤ 3 := by simp at h1; omega
      simp [this]
  rename_i h1
  simp only [length_strs] at h1
  have hn : nameF r = true := by revert h1; cases nameF r <;> simp
  have hl3 : (l.length : Int) ≤ 3 := by rw [hn] at h1; simp at h1; omega
  skip
  refine ALoop.mk Nat (fun i => ⟨[(0, .str r), (1, .list none (strs l)), (2, .clo F [] []), (17, .list none (strs l)), (18, .val (.int .i64 l.length)), (19, .val (.int .i64 i))], [], []⟩) (fun i => i ≤ l.length ∧ (l.take i).all q = true) (fun i => l.length - i) ⟨0, ⟨Nat.zero_le _, rfl⟩, ?_⟩ (fun i hi => ?_)
  · repeat' first
      | exact trivial | refine Weak.mk ?_ ?_ ?_ ?_ (Or.inl (Nat.le_of_ble_eq_true rfl)) | refine And.intro ?_ ?_ | with_reducible rfl | exact Nat.le_of_ble_eq_true rfl | refine AV.int_congr ?_ | refine AV.str_congr ?_ | refine AV.list_congr ?_ | (apply rfl)
    simp
  repeat' first
    | (conv => whnf
       first | refine Need.mk rfl ?_ | refine Ix.strsF rfl ?_ | refine Fork.dec (fun _ => ?_) (fun _ => ?_) | refine Fork.neg (fun _ => ?_) (fun _ => ?_) | refine Round.mk ?_ | refine LitO.own rfl ?_ | refine FinVal.keep ?_ | refine Final.mk ?_ rfl | refine ACall.scalA _ _ (hq _ ?_) rfl ?_)
    | refine AV.bool_congr ?_
  all_goals try simp only [length_rows, length_strs, length_oldLL, List.length_map, Int.toNat_natCast] at *
  · have := str_le (l := l) (i := i) (by omega); omega
  · rename_i h1 h2
    simp [tupF, allQ_no (by omega) h2]
  · rename_i h1 h2
    refine ⟨i + 1, ⟨by omega, allQ_succ (by omega) hi.2 h2⟩, ?_, by omega⟩
    repeat' first
      | exact trivial | refine Weak.mk ?_ ?_ ?_ ?_ (Or.inl (Nat.le_of_ble_eq_true rfl)) | refine And.intro ?_ ?_ | with_reducible rfl | exact Nat.le_of_ble_eq_true rfl | refine AV.int_congr ?_ | refine AV.str_congr ?_ | refine AV.list_congr ?_ | (apply rfl)
    rw [wrap64 (by omega) (by omega)]; rfl
  · have := hi.2
    rw [List.take_of_length_le (by omega)] at this
    simp [tupF, this, hn, hl3]
theorem pIsFact.ret (f : Fct) (h : tFct.size f ≤ 1048576) : pIsFact.Ret [.agg (oldL (tFct.q f))] (.val (.bool (isFactF f))) [] := by
  refine pIsFact.of rfl ?_
  rw [tFct_size, tStrs_size] at h
  have ht : pisTuple.Ret [.str f.1, .list none (strs f.2), .clo 123 [] []] (.val (.bool (isFactF f))) [] := pisTuple.ret atomF _ (fun s hs => pIsAtom.ret s hs) f.1 f.2 (by omega) (by omega)
  repeat' first
    | (conv => whnf
       first | refine FinVal.keep ?_ | refine Final.mk rfl rfl | refine ACall.scalA _ _ (ht) rfl ?_)
end Go.Proofs.Ytplfkocigmnpmaa
namespace Go.Proofs.Ytplfkocigmnpmaa
open Abs
theorem slCompareFunc.ret (l m : List Str) (h : tStrs.size l ≤ 1048576) (h' : tStrs.size m ≤ 1048576) :
    slCompareFunc.Ret [.list none (strs l), .list none (strs m), .clo 126 [] []] (.val (.int .i64 (cmpArgs l m))) [] := by
  refine slCompareFunc.of rfl ?_
  rw [tStrs_size] at h h'
  skip
  refine ALoop.mk Nat (fun i => ⟨[(0, .list none (strs l)), (1, .list none (strs m)), (2, .clo 126 [] []), (11, .list none (strs l)), (12, .val (.int .i64 l.length)), (13, .val (.int .i64 i))], [], []⟩) (fun i => i ≤ l.length ∧ i ≤ m.length ∧ cmpArgs (l.drop i) (m.drop i) = cmpArgs l m) (fun i => l.length - i) ⟨0, ⟨Nat.zero_le _, Nat.zero_le _, rfl⟩, ?_⟩ (fun i hi => ?_)
  · repeat' first
      | exact trivial | refine Weak.mk ?_ ?_ ?_ ?_ (Or.inl (Nat.le_of_ble_eq_true rfl)) | refine And.intro ?_ ?_ | with_reducible rfl | exact Nat.le_of_ble_eq_true rfl | refine AV.int_congr ?_ | refine AV.list_congr ?_ | (apply rfl)
    simp
  obtain ⟨hi1, hi2, hi3⟩ := hi
  repeat' first
    | (conv => whnf
       first | refine Need.mk rfl ?_ | refine Ix.strsF rfl ?_ | refine Fork.dec (fun _ => ?_) (fun _ => ?_) | refine Fork.bne (fun _ => ?_) (fun _ => ?_) | refine Round.mk ?_ | refine LitO.own rfl ?_ | refine FinVal.keep ?_ | refine Final.mk ?_ rfl | refine ACall.scalA _ _ (pCompareAtoms.ret _ _ ?_ ?_) rfl ?_)
    | refine AV.int_congr ?_
  all_goals try simp only [length_rows, length_strs, length_oldLL, List.length_map, Int.toNat_natCast] at *
  · rw [← hi3, cmpArgs_end (by rw [List.drop_eq_nil_iff, List.drop_eq_nil_iff]; omega)]
    simp only [List.length_drop]
    (repeat' split) <;> omega
  · have := str_le (l := l) (i := i) (by omega); omega
  · have := str_le (l := m) (i := i) (by omega); omega
  · rename_i h1 h2 h3
    rw [← hi3, cmpArgs_drop (by omega) (by omega), if_pos h2]
  · rename_i h1 h2 h3
    refine ⟨i + 1, ⟨by omega, by omega, ?_⟩, ?_, by omega⟩
    · rw [cmpArgs_drop (by omega) (by omega), if_neg (by simpa using h2)] at hi3; exact hi3
    · repeat' first
        | exact trivial | refine Weak.mk ?_ ?_ ?_ ?_ (Or.inl (Nat.le_of_ble_eq_true rfl)) | refine And.intro ?_ ?_ | with_reducible rfl | exact Nat.le_of_ble_eq_true rfl | refine AV.int_congr ?_ | refine AV.list_congr ?_ | (apply rfl)
      rw [wrap64 (by omega) (by omega)]; rfl
  all_goals rename_i h1 h2
  all_goals rw [← hi3, cmpArgs_end (by rw [List.drop_eq_nil_iff, List.drop_eq_nil_iff]; omega)]
  all_goals simp only [List.length_drop]
  all_goals ((repeat' split) <;> omega)
theorem pCompareFacts.ret (f g : Fct) (h : tFct.size f ≤ 1048576) (h' : tFct.size g ≤ 1048576) : pCompareFacts.Ret [.agg (oldL (tFct.q f)), .agg (oldL (tFct.q g))] (.val (.int .i64 (cmpF f g))) [] := by
  refine pCompareFacts.of rfl ?_
  rw [tFct_size] at h h'
  repeat' first
    | (conv => whnf
       first | refine Need.mk rfl ?_ | refine Fork.bne (fun _ => ?_) (fun _ => ?_) | refine LitO.own rfl ?_ | refine FinVal.keep ?_ | refine Final.mk ?_ rfl | refine ACall.scalA _ _ (cmpString.ret _ _) rfl ?_ | refine ACall.scalA _ _ (slCompareFunc.ret _ _ ?_ ?_) rfl ?_)
    | refine AV.int_congr ?_
  · rename_i h1
    unfold cmpF; rw [if_neg (fun e => h1 (scmp_zero.2 e))]
  · omega
  · omega
  · rename_i h1
    unfold cmpF; rw [if_pos (scmp_zero.1 (by simpa using h1))]
theorem slEqual.ret (l m : List Str) (hl : l.length ≤ 1099511627776) : slEqual.Ret [.list none (strs l), .list none (strs m)] (.val (.bool (decide (l = m)))) [] := by
  refine slEqual.of rfl ?_
  repeat' first
    | (conv => whnf
       first | refine Need.mk rfl ?_ | refine Fork.bne (fun _ => ?_) (fun _ => ?_) | refine LitO.own rfl ?_ | refine FinVal.keep ?_ | refine Final.mk ?_ rfl)
    | refine AV.bool_congr ?_
  · rename_i h
    rw [length_strs, length_strs] at h
    have h3 : ¬ l = m := fun e => h (by rw [e])
    simp [h3]
  rename_i h
  rw [length_strs, length_strs] at h
  have h : l.length = m.length := by omega
  skip
  refine ALoop.mk Nat (fun i => ⟨[(0, .list none (strs l)), (1, .list none (strs m)), (12, .val (.int .i64 l.length)), (13, .val (.int .i64 i))], [], []⟩) (fun i => i ≤ l.length ∧ l.take i = m.take i) (fun i => l.length - i) ⟨0, ⟨Nat.zero_le _, rfl⟩, ?_⟩ (fun i hi => ?_)
  · repeat' first
      | exact trivial | refine Weak.mk ?_ ?_ ?_ ?_ (Or.inl (Nat.le_of_ble_eq_true rfl)) | refine And.intro ?_ ?_ | with_reducible rfl | exact Nat.le_of_ble_eq_true rfl | refine AV.int_congr ?_ | refine AV.list_congr ?_ | (apply rfl)
    simp
  repeat' first
    | (conv => whnf
       first | refine Need.mk rfl ?_ | refine Ix.strsF rfl ?_ | refine Fork.dec (fun _ => ?_) (fun _ => ?_) | refine Fork.sne (fun _ => ?_) (fun _ => ?_) | refine Round.mk ?_ | refine LitO.own rfl ?_ | refine FinVal.keep ?_ | refine Final.mk ?_ rfl)
    | refine AV.bool_congr ?_
  · rename_i h1 h2
    have h3 : ¬ l = m := fun e => h2 (by rw [e])
    simp [h3]
  · rename_i h1 h2
    refine ⟨i + 1, ⟨by omega, ?_⟩, ?_, by omega⟩
    · rw [take_succ' [] (by omega), take_succ' (l := m) [] (by omega), hi.2]
      rw [Int.toNat_natCast] at h2
      have h2' : l.getD i [] = m.getD i [] := h2
      rw [h2']
    · repeat' first
        | exact trivial | refine Weak.mk ?_ ?_ ?_ ?_ (Or.inl (Nat.le_of_ble_eq_true rfl)) | refine And.intro ?_ ?_ | with_reducible rfl | exact Nat.le_of_ble_eq_true rfl | refine AV.int_congr ?_ | refine AV.list_congr ?_ | (apply rfl)
      rw [wrap64 (by omega) (by omega)]; rfl
  · rename_i h1
    have h2 := hi.2
    rw [List.take_of_length_le (by omega), List.take_of_length_le (by omega)] at h2
    simp [h2]
theorem sSameTexts.ret (l m : List Str) (hl : l.length ≤ 1099511627776) : sSameTexts.Ret [.list none (strs l), .list none (strs m)] (.val (.bool (decide (l = m)))) [] := by
  refine sSameTexts.of rfl ?_
  repeat' first
    | (conv => whnf
       first | refine Need.mk rfl ?_ | refine Fork.bne (fun _ => ?_) (fun _ => ?_) | refine LitO.own rfl ?_ | refine FinVal.keep ?_ | refine Final.mk ?_ rfl)
    | refine AV.bool_congr ?_
  · rename_i h
    rw [length_strs, length_strs] at h
    have h3 : ¬ l = m := fun e => h (by rw [e])
    simp [h3]
  rename_i h
  rw [length_strs, length_strs] at h
  have h : l.length = m.length := by omega
  skip
  refine ALoop.mk Nat (fun i => ⟨[(0, .list none (strs l)), (1, .list none (strs m)), (5, .val (.int .i64 i))], [], []⟩) (fun i => i ≤ l.length ∧ l.take i = m.take i) (fun i => l.length - i) ⟨0, ⟨Nat.zero_le _, rfl⟩, ?_⟩ (fun i hi => ?_)
  · repeat' first
      | exact trivial | refine Weak.mk ?_ ?_ ?_ ?_ (Or.inl (Nat.le_of_ble_eq_true rfl)) | refine And.intro ?_ ?_ | with_reducible rfl | exact Nat.le_of_ble_eq_true rfl | refine AV.int_congr ?_ | refine AV.list_congr ?_ | (apply rfl)
  repeat' first
    | (conv => whnf
       first | refine Need.mk rfl ?_ | refine Ix.strsF rfl ?_ | refine Fork.dec (fun _ => ?_) (fun _ => ?_) | refine Fork.sne (fun _ => ?_) (fun _ => ?_) | refine Round.mk ?_ | refine LitO.own rfl ?_ | refine FinVal.keep ?_ | refine Final.mk ?_ rfl)
    | refine AV.bool_congr ?_
  · rename_i h1 h2
    have h3 : ¬ l = m := fun e => h2 (by rw [e])
    simp [h3]
  · rename_i h1 h2
    rw [length_strs] at h1
    refine ⟨i + 1, ⟨by omega, ?_⟩, ?_, by omega⟩
    · rw [take_succ' [] (by omega), take_succ' (l := m) [] (by omega), hi.2]
      rw [Int.toNat_natCast] at h2
      have h2' : l.getD i [] = m.getD i [] := h2
      rw [h2']
    · repeat' first
        | exact trivial | refine Weak.mk ?_ ?_ ?_ ?_ (Or.inl (Nat.le_of_ble_eq_true rfl)) | refine And.intro ?_ ?_ | with_reducible rfl | exact Nat.le_of_ble_eq_true rfl | refine AV.int_congr ?_ | refine AV.list_congr ?_ | (apply rfl)
      rw [wrap64 (by omega) (by omega)]; rfl
  · rename_i h1
    rw [length_strs] at h1
    have h2 := hi.2
    rw [List.take_of_length_le (by omega), List.take_of_length_le (by omega)] at h2
    simp [h2]
theorem sSame.ret (f g : Fct) (h : tFct.size f ≤ 1048576) : sSame.Ret [.agg (oldL (tFct.q f)), .agg (oldL (tFct.q g))] (.val (.bool (decide (f = g)))) [] := by
  refine sSame.of rfl ?_
  rw [tFct_size, tStrs_size] at h
  repeat' first
    | (conv => whnf
       first | refine Need.mk (fun h => h) ?_ | refine FinVal.keep ?_ | refine Final.mk ?_ rfl | refine AGCall.mkA _ _ (fun hg => sSameTexts.ret _ _ ?_) rfl ?_)
    | refine AV.bool_congr ?_
  · omega
  · obtain ⟨r, l⟩ := f; obtain ⟨r', l'⟩ := g
    rw [Bool.eq_iff_iff]; simp
theorem psameFact.ret (f g : Fct) (h : tFct.size f ≤ 1048576) : psameFact.Ret [.agg (oldL (tFct.q f)), .agg (oldL (tFct.q g))] (.val (.bool (decide (f = g)))) [] := by
  refine psameFact.of rfl ?_
  rw [tFct_size, tStrs_size] at h
  repeat' first
    | (conv => whnf
       first | refine Need.mk (fun h => h) ?_ | refine FinVal.keep ?_ | refine Final.mk ?_ rfl | refine AGCall.mkA _ _ (fun hg => slEqual.ret _ _ ?_) rfl ?_)
    | refine AV.bool_congr ?_
  · omega
  · obtain ⟨r, l⟩ := f; obtain ⟨r', l'⟩ := g
    rw [Bool.eq_iff_iff]; simp
theorem fct_le {l : List Fct} {i : Nat} (hi : i < l.length) : tFct.size (l.getD i default) ≤ listSize tFct l :=
  listSize_mem tFct (List.mem_of_getElem? (facts_get hi))
theorem fct_le' {l : List Fct} (i : Nat) : tFct.size (l.getD i default) ≤ listSize tFct l := by
  rcases Nat.lt_or_ge i l.length with h | h
  · exact fct_le h
  · have : l.getD i default = default := by simp [List.getD, List.getElem?_eq_none h]
    rw [this]; exact Nat.zero_le _
def badAt (l : List Fct) (i : Nat) : Bool := !isFactF (l.getD i default) || (decide ((0 : Int) < i) && decide (0 ≤ cmpF (l.getD (i - 1) default) (l.getD i default)))
@[irreducible] def areF (l : List Fct) : Bool := decide ((l.length : Int) ≤ 24) && (List.range l.length).all fun i => !badAt l i
theorem areF_no {l : List Fct} {i : Nat} (hi : i < l.length) (h : badAt l i = true) : areF l = false := by
  have : ((List.range l.length).all fun i => !badAt l i) = false := by
    rw [List.all_eq_false]
    exact ⟨i, List.mem_range.2 hi, by simp [h]⟩
  unfold areF; rw [this, Bool.and_false]
theorem areF_yes {l : List Fct} (h : ∀ j, j < l.length → badAt l j = false) : areF l = decide ((l.length : Int) ≤ 24) := by
  have : ((List.range l.length).all fun i => !badAt l i) = true := by
    rw [List.all_eq_true]
    intro j hj
    simp [h j (List.mem_range.1 hj)]
  unfold areF; rw [this, Bool.and_true]
theorem badAt_step {l : List Fct} {i : Nat} {x : Int} (hi : i < l.length) (hx : x = (i : Int) - 1) :
    (!isFactF (l.getD i default) || (decide ((0 : Int) < (i : Int)) && decide (0 ≤ cmpF (l.getD x.toNat default) (l.getD i default)))) = badAt l i := by
  subst hx
  unfold badAt
  rw [show ((i : Int) - 1).toNat = i - 1 by omega]
theorem sAreFacts.ret (l : List Fct) (h : tFcts.size l ≤ 1048576) : sAreFacts.Ret [.list none (facts l)] (.val (.bool (areF l))) [] := by
  refine sAreFacts.of rfl ?_
  rw [tFcts_size] at h
  skip
  refine ALoop.mk Nat (fun i => ⟨[(0, .list none (facts l)), (3, .val (.int .i64 i))], [], []⟩) (fun i => i ≤ l.length ∧ ∀ j, j < i → badAt l j = false) (fun i => l.length - i) ⟨0, ⟨Nat.zero_le _, by omega⟩, ?_⟩ (fun i hi => ?_)
  · repeat' first
      | exact trivial | refine Weak.mk ?_ ?_ ?_ ?_ (Or.inl (Nat.le_of_ble_eq_true rfl)) | refine And.intro ?_ ?_ | with_reducible rfl | exact Nat.le_of_ble_eq_true rfl | refine AV.int_congr ?_ | refine AV.list_congr ?_ | (apply rfl)
  have hw : i < l.length → IntKind.i64.wrap ((i : Int) - 1) = (i : Int) - 1 := fun h => wrap64 (by omega) (by omega)
  repeat' first
    | (conv => whnf
       first | refine Need.mk (fun h => h) ?_ | refine Need.mk rfl ?_ | refine Need.mk (Nat.le_of_ble_eq_true rfl) ?_ | refine Ix.mapF (fun _ => rfl) ?_ | refine Fork.dec (fun _ => ?_) (fun _ => ?_) | refine Fork.mk (fun _ => ?_) (fun _ => ?_) | refine Round.mk ?_ | refine LitO.own rfl ?_ | refine FinVal.keep ?_ | refine Final.mk ?_ rfl | refine AQCall.mkA _ _ (fun hg => sIsFact.ret _ ?_) rfl ?_ | refine AQCall.mkA _ _ (fun hg => sCompareFacts.ret _ _ ?_ ?_) rfl ?_)
    | refine AV.bool_congr ?_
  all_goals try simp only [length_rows, length_strs, length_oldLL, List.length_map, Int.toNat_natCast] at *
  · exact Nat.le_trans (fct_le' _) (by omega)
  · exact Nat.le_trans (fct_le' _) (by omega)
  · exact Nat.le_trans (fct_le' _) (by omega)
  · rename_i h1 h2
    rw [badAt_step (by omega) (hw (by omega))] at h1
    rw [areF_no (by omega) h1]
  · rename_i h1 h2
    rw [badAt_step (by omega) (hw (by omega))] at h1
    refine ⟨i + 1, ⟨by omega, fun j hj => ?_⟩, ?_, by omega⟩
    · rcases Nat.lt_or_ge j i with h | h
      · exact hi.2 j h
      · have : j = i := by omega
        subst this; exact h1
    · repeat' first
        | exact trivial | refine Weak.mk ?_ ?_ ?_ ?_ (Or.inl (Nat.le_of_ble_eq_true rfl)) | refine And.intro ?_ ?_ | with_reducible rfl | exact Nat.le_of_ble_eq_true rfl | refine AV.int_congr ?_ | refine AV.list_congr ?_ | (apply rfl)
      rw [wrap64 (by omega) (by omega)]; rfl
  · rw [areF_yes (fun j hj => hi.2 j (by omega))]
theorem areF_long {l : List Fct} (h : ¬ (l.length : Int) ≤ 24) : areF l = false := by unfold areF; simp [h]
theorem pAreFacts.ret (l : List Fct) (h : tFcts.size l ≤ 1048576) : pAreFacts.Ret [.list none (facts l)] (.val (.bool (areF l))) [] := by
  refine pAreFacts.of rfl ?_
  rw [tFcts_size] at h
  repeat' first
    | (conv => whnf
       first | refine Need.mk rfl ?_ | refine Fork.dec (fun _ => ?_) (fun _ => ?_) | refine LitO.own rfl ?_ | refine FinVal.keep ?_ | refine Final.mk ?_ rfl)
    | refine AV.bool_congr ?_
  · rename_i h1
    rw [length_rows] at h1
    rw [areF_long (by omega)]
  rename_i h24
  rw [length_rows] at h24
  skip
  refine ALoop.mk Nat (fun i => ⟨[(0, .list none (facts l)), (8, .list none (facts l)), (9, .val (.int .i64 l.length)), (10, .val (.int .i64 i))], [], []⟩) (fun i => i ≤ l.length ∧ ∀ j, j < i → badAt l j = false) (fun i => l.length - i) ⟨0, ⟨Nat.zero_le _, by omega⟩, ?_⟩ (fun i hi => ?_)
  · repeat' first
      | exact trivial | refine Weak.mk ?_ ?_ ?_ ?_ (Or.inl (Nat.le_of_ble_eq_true rfl)) | refine And.intro ?_ ?_ | with_reducible rfl | exact Nat.le_of_ble_eq_true rfl | refine AV.int_congr ?_ | refine AV.list_congr ?_ | (apply rfl)
    simp
  have hw : i < l.length → IntKind.i64.wrap ((i : Int) - 1) = (i : Int) - 1 := fun h => wrap64 (by omega) (by omega)
  repeat' first
    | (conv => whnf
       first | refine Need.mk (fun h => h) ?_ | refine Need.mk rfl ?_ | refine Need.mk ⟨rfl, Nat.le_of_ble_eq_true rfl⟩ ?_ | refine Need.mk (Nat.le_of_ble_eq_true rfl) ?_ | refine Ix.mapF (fun _ => rfl) ?_ | refine Fork.dec (fun _ => ?_) (fun _ => ?_) | refine Fork.mk (fun _ => ?_) (fun _ => ?_) | refine Round.mk ?_ | refine LitO.own rfl ?_ | refine FinVal.keep ?_ | refine Final.mk ?_ rfl | refine AQCall.mkA _ _ (fun hg => pIsFact.ret _ ?_) rfl ?_ | refine AQCall.mkA _ _ (fun hg => pCompareFacts.ret _ _ ?_ ?_) rfl ?_)
    | refine AV.bool_congr ?_
  all_goals try simp only [length_rows, length_strs, length_oldLL, List.length_map, Int.toNat_natCast] at *
  · exact Nat.le_trans (fct_le' _) (by omega)
  · exact Nat.le_trans (fct_le' _) (by omega)
  · exact Nat.le_trans (fct_le' _) (by omega)
  · rename_i h2 h1
    rw [badAt_step (by omega) (hw (by omega))] at h1
    rw [areF_no (by omega) h1]
  · rename_i h2 h1
    rw [badAt_step (by omega) (hw (by omega))] at h1
    refine ⟨i + 1, ⟨by omega, fun j hj => ?_⟩, ?_, by omega⟩
    · rcases Nat.lt_or_ge j i with h | h
      · exact hi.2 j h
      · have : j = i := by omega
        subst this; exact h1
    · repeat' first
        | exact trivial | refine Weak.mk ?_ ?_ ?_ ?_ (Or.inr ⟨(by repeat' first | exact trivial | exact Nat.le_of_ble_eq_true rfl | refine And.intro ?_ ?_), (by repeat' first | exact trivial | exact Nat.le_of_ble_eq_true rfl | refine And.intro ?_ ?_)⟩) | refine And.intro ?_ ?_ | with_reducible rfl | exact Nat.le_of_ble_eq_true rfl | refine AV.int_congr ?_ | refine AV.list_congr ?_ | (apply rfl)
      rw [wrap64 (by omega) (by omega)]; rfl
  · rw [areF_yes (fun j hj => hi.2 j (by omega))]; simp; omega
end Go.Proofs.Ytplfkocigmnpmaa
namespace Go.Proofs.Ytplfkocigmnpmaa
open Abs
theorem takeAV_one {n : Nat} {cs : List AV} {k : AV → Prop} (c : AV) (r : List AV) (h : cs = c :: r) (hk : k c) : takeAV false n cs k := by subst h; exact hk
def fctsT (l : List Fct) : Tr := .l 44 2 (l.map tFct.q)
end Go.Proofs.Ytplfkocigmnpmaa
namespace Go.Proofs.Ytplfkocigmnpmaa
open Abs
theorem sTexts.ret (l : List Str) (h : l.length ≤ 1048576) : sTexts.Ret [.list none (strs l)] (.list (some 0) (strs l)) [(9, 1, l.length)] := by
  refine sTexts.of rfl ?_
  repeat' first
    | (conv => whnf
       first | refine Need.mk rfl ?_ | refine Need.mk ?_ ?_ | refine LitO.own rfl ?_ | refine Final.mk ?_ ?_)
    | refine AV.list_congr ?_ | refine fr1 ?_
  · exact strs_sz l
  · simp; omega
  · rfl
  · simp
theorem slClone.ret (l : List Str) (h : l.length ≤ 1048576) : slClone.Ret [.list none (strs l)] (.list (some 0) (strs l)) [(9, 1, l.length)] := by
  refine slClone.of rfl ?_
  repeat' first
    | (conv => whnf
       first | refine Need.mk rfl ?_ | refine Need.mk ?_ ?_ | refine Fork.neg (fun _ => ?_) (fun _ => ?_) | refine NilQ.mk (fun b hb => ?_) | refine LitO.own rfl ?_ | refine FinVal.nil 9 1 rfl ?_ | refine Final.mk ?_ ?_)
    | refine AV.list_congr ?_ | refine fr1 ?_
  · rename_i h1
    have hl : l = [] := List.eq_nil_of_length_eq_zero (by rw [length_strs] at hb; exact hb (by revert h1; cases b <;> simp))
    subst hl; rfl
  · rename_i h1
    have hl : l = [] := List.eq_nil_of_length_eq_zero (by rw [length_strs] at hb; exact hb (by revert h1; cases b <;> simp))
    subst hl; rfl
  · exact strs_sz l
  · simp; omega
  · rfl
  · simp
theorem sCopy.ret (f : Fct) (h : tFct.size f ≤ 1048576) : sCopy.Ret [.agg (oldL (tFct.q f))] (.agg (tFct.tk f 0)) (tFct.fr f) := by
  refine sCopy.of rfl ?_
  rw [tFct_size, tStrs_size] at h
  repeat' first
    | (conv => whnf
       first | refine Need.mk rfl ?_ | refine Need.mk ⟨rfl, Nat.le_of_ble_eq_true rfl⟩ ?_ | refine Need.mk (Nat.le_of_ble_eq_true rfl) ?_ | refine LitO.own rfl ?_ | refine FinAgg.keep ?_ | refine Final.mk rfl rfl | refine ACall.mkStrs _ _ (sTexts.ret _ ?_) (by repeat' first | exact SeesL.nil | refine SeesL.cons ?_ ?_ | exact SeesB.of0 (Sees0.val _) | exact SeesB.of0 (Sees0.str _) | exact SeesB.of0 (Sees0.olds _ _) | exact SeesB.of0 (Sees0.old _) | exact SeesB.of0 (Sees0.oldagg _) | exact SeesB.of0 Sees0.nil | exact Sees0.val _ | exact Sees0.str _ | exact Sees0.olds _ _ | exact Sees0.old _ | exact Sees0.oldagg _ | exact Sees0.nil | exact SeesB.of0 (Sees0.any _) | assumption | exact sees_gv _ _ _ (by assumption) (by first | assumption | exact BoxIn.last _ _ | exact BoxIn.more (BoxIn.last _ _) _) | refine SeesB.agg ?_ | refine Sees0.agg ?_ | exact SeesB.of0 (Sees0.clo SeesL.nil SeesL.nil) | exact Sees0.clo SeesL.nil SeesL.nil | exact SeesB.of0 (Sees0.list rfl) | exact Sees0.list rfl) ?_)
  omega
theorem pcopyFact.ret (f : Fct) (h : tFct.size f ≤ 1048576) : pcopyFact.Ret [.agg (oldL (tFct.q f))] (.agg (tFct.tk f 0)) (tFct.fr f) := by
  refine pcopyFact.of rfl ?_
  rw [tFct_size, tStrs_size] at h
  repeat' first
    | (conv => whnf
       first | refine Need.mk rfl ?_ | refine Need.mk ⟨rfl, Nat.le_of_ble_eq_true rfl⟩ ?_ | refine Need.mk (Nat.le_of_ble_eq_true rfl) ?_ | refine LitO.own rfl ?_ | refine FinAgg.keep ?_ | refine Final.mk rfl rfl | refine ACall.mkStrs _ _ (slClone.ret _ ?_) (by repeat' first | exact SeesL.nil | refine SeesL.cons ?_ ?_ | exact SeesB.of0 (Sees0.val _) | exact SeesB.of0 (Sees0.str _) | exact SeesB.of0 (Sees0.olds _ _) | exact SeesB.of0 (Sees0.old _) | exact SeesB.of0 (Sees0.oldagg _) | exact SeesB.of0 Sees0.nil | exact Sees0.val _ | exact Sees0.str _ | exact Sees0.olds _ _ | exact Sees0.old _ | exact Sees0.oldagg _ | exact Sees0.nil | exact SeesB.of0 (Sees0.any _) | assumption | exact sees_gv _ _ _ (by assumption) (by first | assumption | exact BoxIn.last _ _ | exact BoxIn.more (BoxIn.last _ _) _) | refine SeesB.agg ?_ | refine Sees0.agg ?_ | exact SeesB.of0 (Sees0.clo SeesL.nil SeesL.nil) | exact Sees0.clo SeesL.nil SeesL.nil | exact SeesB.of0 (Sees0.list rfl) | exact Sees0.list rfl) ?_)
  omega
/-- a list of facts that is built by appending: its own slice first, then the facts' -/
def accFr (l : List Fct) : Fr := (44, 2, l.length) :: frs tFct l
theorem accFr_snoc (l : List Fct) (f : Fct) : (accFr l ++ tFct.fr f).set 0 (44, 2, l.length + 1) = accFr (l ++ [f]) := by
  simp [accFr, frs]
theorem acc_snoc (l : List Fct) (f : Fct) : tks tFct l 1 ++ [tFct.tk f (accFr l).length] = tks tFct (l ++ [f]) 1 := by
  rw [tks_append]
  congr 1
  show _ = [tFct.tk f _]
  rw [accFr, List.length_cons, Nat.add_comm]
theorem acc_own {mo : Bool} {P : Program} {f : Nat} {args : List AV} {l : List Fct} (h : Ret mo P f args (.list (some 0) (tks tFct l 1)) (accFr l)) : Own mo P f args (.l 44 2 (l.map tFct.q)) := by
  obtain ⟨ts, h1, p1⟩ := tks_own tFct (accFr l) l 1 (fun i x hi => by rw [accFr, Nat.add_comm, List.getElem?_cons_succ]; exact hi)
  have h2 : OwnA (accFr l) [.l 44 2 (l.map tFct.q)] [.list (some 0) (tks tFct l 1)] (0 :: ts ++ []) :=
    .l 44 2 _ 0 _ (by simp [accFr]) (by rw [length_tks, List.length_map]) (fun e he => by obtain ⟨a, _, rfl⟩ := List.mem_map.1 he; exact tFct.hq a) (tks_sz tFct l 1) h1 .nil
  refine h.own _ h2 ?_
  rw [List.append_nil]
  refine List.nodup_cons.2 ⟨fun hm => ?_, p1.symm.nodup (List.nodup_range' _)⟩
  have := (p1.mem_iff).1 hm
  rw [List.mem_range'_1] at this
  omega
end Go.Proofs.Ytplfkocigmnpmaa
