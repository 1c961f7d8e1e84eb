/-
  What stands below some laws' proofs, part 1: contracts of functions, by an evaluator.
-/
import Derived.Test.YtlmlfkjdgnpmjaaK5
import Derived.Laws.RangeAny
import Derived.Test.YtlmlfkjdgnpmjaaRows
import Derived.ProofKit
import Derived.Deep.Slices
namespace Go.Proofs.Ytlmlfkjdgnpmjaa
open Abs
def eqFact.code : ACode := (.seq (.region false [s 2 (.box (t 0)), s 3 (.box (t 1)), s 4 (.mv (.const (.bool false)))]) (.seq (.seq (.region false [s 5 (.fadr 0 (t 2)), s 6 (.load false 1 (t 5)), s 7 (.fadr 0 (t 3)), s 8 (.load false 1 (t 7)), s 9 (.bin .neq (t 6) (t 8))]) (.cond (t 9) (.seq (.region false [s 4 (.mv (.const (.bool false)))]) .ret) .skip)) (.seq (.seq (.region false [s 10 (.fadr 1 (t 2)), s 11 (.load false 1 (t 10)), s 12 (.fadr 1 (t 3)), s 13 (.load false 1 (t 12)), s 14 (.call 44 [(t 11), (t 13)]), s 15 (.not (t 14))]) (.cond (t 15) (.seq (.region false [s 4 (.mv (.const (.bool false)))]) .ret) .skip)) (.seq (.region false [s 4 (.mv (.const (.bool true)))]) .ret))))
def eqFact.keep : List Nat := [0, 1, 2, 3, 4]
def eqFact.res : List RRes := [.tmp 4]
theorem eqFact.of {mo : Bool} {args : List AV} {r : AV} {frs : Fr} (hn : Nat.ble args.length Try.f13.ntmps = true) (h : aCode (Kn mo Try.prog) eqFact.keep 0 eqFact.code (doneK eqFact.res r frs) ⟨argEnv 0 args, [], []⟩) : Abs.Ret mo Try.prog 13 args r frs :=
  Abs.Ret.of_ir Try.func13 rfl (by kernel_rfl) (Nat.le_of_ble_eq_true hn) (by kernel_rfl) (by kernel_rfl) h
abbrev eqFact.Ret (args : List AV) (r : AV) (frs : Fr) : Prop := Abs.Ret true Try.prog 13 args r frs
def eqPair.code : ACode := (.seq (.region false [s 2 (.box (t 0)), s 3 (.box (t 1)), s 4 (.mv (.const (.bool false)))]) (.seq (.seq (.region false [s 5 (.fadr 0 (t 2)), s 6 (.load false 1 (t 5)), s 7 (.fadr 0 (t 3)), s 8 (.load false 1 (t 7)), s 9 (.bin .neq (t 6) (t 8))]) (.cond (t 9) (.seq (.region false [s 4 (.mv (.const (.bool false)))]) .ret) .skip)) (.seq (.seq (.region false [s 10 (.fadr 1 (t 2)), s 11 (.load false 1 (t 10)), s 12 (.fadr 1 (t 3)), s 13 (.load false 1 (t 12)), s 14 (.bin .neq (t 11) (t 13))]) (.cond (t 14) (.seq (.region false [s 4 (.mv (.const (.bool false)))]) .ret) .skip)) (.seq (.region false [s 4 (.mv (.const (.bool true)))]) .ret))))
def eqPair.keep : List Nat := [0, 1, 2, 3, 4]
def eqPair.res : List RRes := [.tmp 4]
theorem eqPair.of {mo : Bool} {args : List AV} {r : AV} {frs : Fr} (hn : Nat.ble args.length Try.f45.ntmps = true) (h : aCode (Kn mo Try.prog) eqPair.keep 0 eqPair.code (doneK eqPair.res r frs) ⟨argEnv 0 args, [], []⟩) : Abs.Ret mo Try.prog 45 args r frs :=
  Abs.Ret.of_ir Try.func45 rfl (by kernel_rfl) (Nat.le_of_ble_eq_true hn) (by kernel_rfl) (by kernel_rfl) h
abbrev eqPair.Ret (args : List AV) (r : AV) (frs : Fr) : Prop := Abs.Ret true Try.prog 45 args r frs
def eqPairS.code : ACode := (.seq (.region false [s 4 (.mv (.const (.bool false)))]) (.seq (.seq (.region false [s 6 (.mv (t 0)), s 7 (.len false (t 6)), s 8 (.mv (t 1)), s 9 (.len false (t 8)), s 10 (.bin .neq (t 7) (t 9))]) (.cond (t 10) (.seq (.region false [s 4 (.mv (.const (.bool false)))]) .ret) .skip)) (.seq (.seq (.region false [s 5 (.mv (.const (.int .i64 0)))]) (.block 0 (.loop (.seq (.seq (.region false [s 11 (.mv (t 5)), s 12 (.mv (t 0)), s 13 (.len false (t 12)), s 14 (.bin .lss (t 11) (t 13))]) (.cond (t 14) .skip (.exit 0))) (.seq (.block 1 (.seq (.region true [s 17 (.mv (t 0)), s 18 (.mv (t 5)), s 19 (.iadr 2 (t 17) (t 18)), s 20 (.load true 2 (t 19)), s 21 (.mv (t 1)), s 22 (.mv (t 5)), s 23 (.iadr 2 (t 21) (t 22)), s 24 (.load true 2 (t 23)), s 25 (.call 45 [(t 20), (t 24)]), s 26 (.not (t 25))]) (.cond (t 26) (.seq (.region false [s 4 (.mv (.const (.bool false)))]) .ret) .skip))) (.region false [s 15 (.mv (t 5)), s 16 (.bin .add (t 15) (.const (.int .i64 1))), s 5 (.mv (t 16))])))))) (.seq (.region false [s 4 (.mv (.const (.bool true)))]) .ret))))
def eqPairS.keep : List Nat := [0, 1, 4, 5]
def eqPairS.res : List RRes := [.tmp 4]
theorem eqPairS.of {mo : Bool} {args : List AV} {r : AV} {frs : Fr} (hn : Nat.ble args.length Try.f15.ntmps = true) (h : aCode (Kn mo Try.prog) eqPairS.keep 0 eqPairS.code (doneK eqPairS.res r frs) ⟨argEnv 0 args, [], []⟩) : Abs.Ret mo Try.prog 15 args r frs :=
  Abs.Ret.of_ir Try.func15 rfl (by kernel_rfl) (Nat.le_of_ble_eq_true hn) (by kernel_rfl) (by kernel_rfl) h
abbrev eqPairS.Ret (args : List AV) (r : AV) (frs : Fr) : Prop := Abs.Ret true Try.prog 15 args r frs
def eqPattern.code : ACode := (.seq (.region false [s 2 (.box (t 0)), s 3 (.box (t 1)), s 4 (.mv (.const (.bool false)))]) (.seq (.seq (.region false [s 5 (.fadr 0 (t 2)), s 6 (.load false 1 (t 5)), s 7 (.fadr 0 (t 3)), s 8 (.load false 1 (t 7)), s 9 (.bin .neq (t 6) (t 8))]) (.cond (t 9) (.seq (.region false [s 4 (.mv (.const (.bool false)))]) .ret) .skip)) (.seq (.seq (.region false [s 10 (.fadr 1 (t 2)), s 11 (.load false 1 (t 10)), s 12 (.fadr 1 (t 3)), s 13 (.load false 1 (t 12)), s 14 (.call 44 [(t 11), (t 13)]), s 15 (.not (t 14))]) (.cond (t 15) (.seq (.region false [s 4 (.mv (.const (.bool false)))]) .ret) .skip)) (.seq (.region false [s 4 (.mv (.const (.bool true)))]) .ret))))
def eqPattern.keep : List Nat := [0, 1, 2, 3, 4]
def eqPattern.res : List RRes := [.tmp 4]
theorem eqPattern.of {mo : Bool} {args : List AV} {r : AV} {frs : Fr} (hn : Nat.ble args.length Try.f14.ntmps = true) (h : aCode (Kn mo Try.prog) eqPattern.keep 0 eqPattern.code (doneK eqPattern.res r frs) ⟨argEnv 0 args, [], []⟩) : Abs.Ret mo Try.prog 14 args r frs :=
  Abs.Ret.of_ir Try.func14 rfl (by kernel_rfl) (Nat.le_of_ble_eq_true hn) (by kernel_rfl) (by kernel_rfl) h
abbrev eqPattern.Ret (args : List AV) (r : AV) (frs : Fr) : Prop := Abs.Ret true Try.prog 14 args r frs
def eqStringS.code : ACode := (.seq (.region false [s 4 (.mv (.const (.bool false)))]) (.seq (.seq (.region false [s 6 (.mv (t 0)), s 7 (.len false (t 6)), s 8 (.mv (t 1)), s 9 (.len false (t 8)), s 10 (.bin .neq (t 7) (t 9))]) (.cond (t 10) (.seq (.region false [s 4 (.mv (.const (.bool false)))]) .ret) .skip)) (.seq (.seq (.region false [s 5 (.mv (.const (.int .i64 0)))]) (.block 0 (.loop (.seq (.seq (.region false [s 11 (.mv (t 5)), s 12 (.mv (t 0)), s 13 (.len false (t 12)), s 14 (.bin .lss (t 11) (t 13))]) (.cond (t 14) .skip (.exit 0))) (.seq (.block 1 (.seq (.region true [s 17 (.mv (t 0)), s 18 (.mv (t 5)), s 19 (.iadr 1 (t 17) (t 18)), s 20 (.load false 1 (t 19)), s 21 (.mv (t 1)), s 22 (.mv (t 5)), s 23 (.iadr 1 (t 21) (t 22)), s 24 (.load false 1 (t 23)), s 25 (.bin .neq (t 20) (t 24))]) (.cond (t 25) (.seq (.region false [s 4 (.mv (.const (.bool false)))]) .ret) .skip))) (.region false [s 15 (.mv (t 5)), s 16 (.bin .add (t 15) (.const (.int .i64 1))), s 5 (.mv (t 16))])))))) (.seq (.region false [s 4 (.mv (.const (.bool true)))]) .ret))))
def eqStringS.keep : List Nat := [0, 1, 4, 5]
def eqStringS.res : List RRes := [.tmp 4]
theorem eqStringS.of {mo : Bool} {args : List AV} {r : AV} {frs : Fr} (hn : Nat.ble args.length Try.f44.ntmps = true) (h : aCode (Kn mo Try.prog) eqStringS.keep 0 eqStringS.code (doneK eqStringS.res r frs) ⟨argEnv 0 args, [], []⟩) : Abs.Ret mo Try.prog 44 args r frs :=
  Abs.Ret.of_ir Try.func44 rfl (by kernel_rfl) (Nat.le_of_ble_eq_true hn) (by kernel_rfl) (by kernel_rfl) h
abbrev eqStringS.Ret (args : List AV) (r : AV) (frs : Fr) : Prop := Abs.Ret true Try.prog 44 args r frs
def heldFact.code : ACode := (.seq (.region false [s 2 (.box (t 0)), s 4 (.mv (.const (.int .i64 0)))]) (.seq (.region false [s 5 (.fadr 1 (t 2)), s 6 (.load false 1 (t 5)), s 7 (.mv (t 1)), s 8 (.call 48 [(t 6), (t 7)]), s 1 (.mv (t 8))]) (.seq (.seq (.region false [s 9 (.mv (t 1)), s 10 (.bin .lss (t 9) (.const (.int .i64 0)))]) (.cond (t 10) (.seq (.region false [s 4 (.mv (.const (.int .i64 (-1))))]) .ret) .skip)) (.seq (.region false [s 11 (.mv (t 1)), s 4 (.mv (t 11))]) .ret))))
def heldFact.keep : List Nat := [0, 1, 2, 4]
def heldFact.res : List RRes := [.tmp 4]
theorem heldFact.ofS {mo : Bool} {args : List AV} {r : AV} (hr : isScalR r = true) (hn : Nat.ble args.length Try.f19.ntmps = true) (h : aCode (Kn mo Try.prog) heldFact.keep 0 heldFact.code (doneS heldFact.res r) ⟨argEnv 0 args, [], []⟩) : Abs.Ret mo Try.prog 19 args r [] :=
  Abs.Ret.of_irS hr Try.func19 rfl (by kernel_rfl) (Nat.le_of_ble_eq_true hn) (by kernel_rfl) (by kernel_rfl) h
abbrev heldFact.Ret (args : List AV) (r : AV) (frs : Fr) : Prop := Abs.Ret true Try.prog 19 args r frs
def heldStringS.code : ACode := (.seq (.region false [s 4 (.mv (.const (.int .i64 0)))]) (.seq (.seq (.region false [s 5 (.mv (.const (.int .i64 0)))]) (.block 0 (.loop (.seq (.seq (.region false [s 6 (.mv (t 5)), s 7 (.mv (t 0)), s 8 (.len false (t 7)), s 9 (.bin .lss (t 6) (t 8))]) (.cond (t 9) .skip (.exit 0))) (.seq (.block 1 (.seq (.seq (.region true [s 12 (.mv (t 0)), s 13 (.mv (t 5)), s 14 (.iadr 1 (t 12) (t 13)), s 15 (.load false 1 (t 14)), s 16 (.mv (t 1)), s 17 (.call 47 [(t 16)]), s 18 (.bin .neq (t 15) (t 17))]) (.cond (t 18) (.seq (.region false [s 4 (.mv (.const (.int .i64 (-1))))]) .ret) .skip)) (.region false [s 19 (.mv (t 1)), s 20 (.bin .add (t 19) (.const (.int .i64 1))), s 1 (.mv (t 20))]))) (.region false [s 10 (.mv (t 5)), s 11 (.bin .add (t 10) (.const (.int .i64 1))), s 5 (.mv (t 11))])))))) (.seq (.region false [s 21 (.mv (t 1)), s 4 (.mv (t 21))]) .ret)))
def heldStringS.keep : List Nat := [0, 1, 4, 5]
def heldStringS.res : List RRes := [.tmp 4]
theorem heldStringS.ofS {mo : Bool} {args : List AV} {r : AV} (hr : isScalR r = true) (hn : Nat.ble args.length Try.f48.ntmps = true) (h : aCode (Kn mo Try.prog) heldStringS.keep 0 heldStringS.code (doneS heldStringS.res r) ⟨argEnv 0 args, [], []⟩) : Abs.Ret mo Try.prog 48 args r [] :=
  Abs.Ret.of_irS hr Try.func48 rfl (by kernel_rfl) (Nat.le_of_ble_eq_true hn) (by kernel_rfl) (by kernel_rfl) h
abbrev heldStringS.Ret (args : List AV) (r : AV) (frs : Fr) : Prop := Abs.Ret true Try.prog 48 args r frs
def markFact.code : ACode := (.seq (.region false [s 2 (.box (t 0)), s 4 (.mv (.const (.int .i64 0)))]) (.seq (.region false [s 5 (.fadr 1 (t 2)), s 6 (.load false 1 (t 5)), s 7 (.mv (t 1)), s 8 (.call 46 [(t 6), (t 7)]), s 1 (.mv (t 8))]) (.seq (.region false [s 9 (.mv (t 1)), s 4 (.mv (t 9))]) .ret)))
def markFact.keep : List Nat := [0, 1, 2, 4]
def markFact.res : List RRes := [.tmp 4]
theorem markFact.ofT {mo : Bool} {b0 : List ABox} {x' : Tr} {args : List AV} {r : AV} (hr : isScalR r = true) (hn : Nat.ble args.length Try.f18.ntmps = true) (hx : nb x' = b0.length) (h : aCode (Kn mo Try.prog) markFact.keep b0.length markFact.code (doneT markFact.res b0.length r (gb x' 0)) ⟨argEnv 0 args, b0, []⟩) : Abs.Turn mo Try.prog 18 b0 args r (gb x' 0) :=
  Abs.Turn.of_ir hr Try.func18 rfl (by kernel_rfl) (Nat.le_of_ble_eq_true hn) (by kernel_rfl) (by kernel_rfl) hx h
abbrev markFact.Turn (b0 : List ABox) (args : List AV) (r : AV) (b1 : List ABox) : Prop := Abs.Turn true Try.prog 18 b0 args r b1
def markPairS.code : ACode := (.seq (.region false [s 4 (.mv (.const (.int .i64 0)))]) (.seq (.seq (.region false [s 5 (.mv (.const (.int .i64 0)))]) (.block 0 (.loop (.seq (.seq (.region false [s 6 (.mv (t 5)), s 7 (.mv (t 0)), s 8 (.len false (t 7)), s 9 (.bin .lss (t 6) (t 8))]) (.cond (t 9) .skip (.exit 0))) (.seq (.block 1 (.seq (.region false [s 12 (.mv (t 0)), s 13 (.mv (t 5)), s 14 (.mv (t 1)), s 15 (.call 47 [(t 14)]), s 16 (.iadr 2 (t 12) (t 13)), s 17 (.fadr 0 (t 16)), ⟨none, none, (.store 1 (t 17) (t 15))⟩]) (.seq (.region false [s 18 (.mv (t 1)), s 19 (.bin .add (t 18) (.const (.int .i64 1))), s 1 (.mv (t 19))]) (.seq (.region false [s 20 (.mv (t 0)), s 21 (.mv (t 5)), s 22 (.mv (t 1)), s 23 (.call 47 [(t 22)]), s 24 (.iadr 2 (t 20) (t 21)), s 25 (.fadr 1 (t 24)), ⟨none, none, (.store 1 (t 25) (t 23))⟩]) (.region false [s 26 (.mv (t 1)), s 27 (.bin .add (t 26) (.const (.int .i64 1))), s 1 (.mv (t 27))]))))) (.region false [s 10 (.mv (t 5)), s 11 (.bin .add (t 10) (.const (.int .i64 1))), s 5 (.mv (t 11))])))))) (.seq (.region false [s 28 (.mv (t 1)), s 4 (.mv (t 28))]) .ret)))
def markPairS.keep : List Nat := [0, 1, 4, 5]
def markPairS.res : List RRes := [.tmp 4]
theorem markPairS.ofT {mo : Bool} {b0 : List ABox} {x' : Tr} {args : List AV} {r : AV} (hr : isScalR r = true) (hn : Nat.ble args.length Try.f17.ntmps = true) (hx : nb x' = b0.length) (h : aCode (Kn mo Try.prog) markPairS.keep b0.length markPairS.code (doneT markPairS.res b0.length r (gb x' 0)) ⟨argEnv 0 args, b0, []⟩) : Abs.Turn mo Try.prog 17 b0 args r (gb x' 0) :=
  Abs.Turn.of_ir hr Try.func17 rfl (by kernel_rfl) (Nat.le_of_ble_eq_true hn) (by kernel_rfl) (by kernel_rfl) hx h
abbrev markPairS.Turn (b0 : List ABox) (args : List AV) (r : AV) (b1 : List ABox) : Prop := Abs.Turn true Try.prog 17 b0 args r b1
def markPattern.code : ACode := (.seq (.region false [s 2 (.box (t 0)), s 4 (.mv (.const (.int .i64 0)))]) (.seq (.region false [s 5 (.fadr 1 (t 2)), s 6 (.load false 1 (t 5)), s 7 (.mv (t 1)), s 8 (.call 46 [(t 6), (t 7)]), s 1 (.mv (t 8))]) (.seq (.region false [s 9 (.mv (t 1)), s 4 (.mv (t 9))]) .ret)))
def markPattern.keep : List Nat := [0, 1, 2, 4]
def markPattern.res : List RRes := [.tmp 4]
theorem markPattern.ofT {mo : Bool} {b0 : List ABox} {x' : Tr} {args : List AV} {r : AV} (hr : isScalR r = true) (hn : Nat.ble args.length Try.f16.ntmps = true) (hx : nb x' = b0.length) (h : aCode (Kn mo Try.prog) markPattern.keep b0.length markPattern.code (doneT markPattern.res b0.length r (gb x' 0)) ⟨argEnv 0 args, b0, []⟩) : Abs.Turn mo Try.prog 16 b0 args r (gb x' 0) :=
  Abs.Turn.of_ir hr Try.func16 rfl (by kernel_rfl) (Nat.le_of_ble_eq_true hn) (by kernel_rfl) (by kernel_rfl) hx h
abbrev markPattern.Turn (b0 : List ABox) (args : List AV) (r : AV) (b1 : List ABox) : Prop := Abs.Turn true Try.prog 16 b0 args r b1
def markStringS.code : ACode := (.seq (.region false [s 4 (.mv (.const (.int .i64 0)))]) (.seq (.seq (.region false [s 5 (.mv (.const (.int .i64 0)))]) (.block 0 (.loop (.seq (.seq (.region false [s 6 (.mv (t 5)), s 7 (.mv (t 0)), s 8 (.len false (t 7)), s 9 (.bin .lss (t 6) (t 8))]) (.cond (t 9) .skip (.exit 0))) (.seq (.block 1 (.seq (.region false [s 12 (.mv (t 0)), s 13 (.mv (t 5)), s 14 (.mv (t 1)), s 15 (.call 47 [(t 14)]), s 16 (.iadr 1 (t 12) (t 13)), ⟨none, none, (.store 1 (t 16) (t 15))⟩]) (.region false [s 17 (.mv (t 1)), s 18 (.bin .add (t 17) (.const (.int .i64 1))), s 1 (.mv (t 18))]))) (.region false [s 10 (.mv (t 5)), s 11 (.bin .add (t 10) (.const (.int .i64 1))), s 5 (.mv (t 11))])))))) (.seq (.region false [s 19 (.mv (t 1)), s 4 (.mv (t 19))]) .ret)))
def markStringS.keep : List Nat := [0, 1, 4, 5]
def markStringS.res : List RRes := [.tmp 4]
theorem markStringS.ofT {mo : Bool} {b0 : List ABox} {x' : Tr} {args : List AV} {r : AV} (hr : isScalR r = true) (hn : Nat.ble args.length Try.f46.ntmps = true) (hx : nb x' = b0.length) (h : aCode (Kn mo Try.prog) markStringS.keep b0.length markStringS.code (doneT markStringS.res b0.length r (gb x' 0)) ⟨argEnv 0 args, b0, []⟩) : Abs.Turn mo Try.prog 46 b0 args r (gb x' 0) :=
  Abs.Turn.of_ir hr Try.func46 rfl (by kernel_rfl) (Nat.le_of_ble_eq_true hn) (by kernel_rfl) (by kernel_rfl) hx h
abbrev markStringS.Turn (b0 : List ABox) (args : List AV) (r : AV) (b1 : List ABox) : Prop := Abs.Turn true Try.prog 46 b0 args r b1
def markText.code : ACode := (.seq (.region false [s 2 (.mv (.const (.string (.mk #[]))))]) (.seq (.seq (.region false [s 4 (.mv (t 0)), s 5 (.bin .leq (t 4) (.const (.int .i64 0)))]) (.cond (t 5) (.seq (.region false [s 2 (.mv (.const (.string (.mk #[109, 48]))))]) .ret) .skip)) (.seq (.region false [s 3 (.mv (.const (.string (.mk #[]))))]) (.seq (.block 0 (.loop (.seq (.seq (.region false [s 6 (.mv (t 0)), s 7 (.bin .gtr (t 6) (.const (.int .i64 0)))]) (.cond (t 7) .skip (.exit 0))) (.block 1 (.seq (.region false [s 8 (.mv (t 0)), s 9 (.bin .rem (t 8) (.const (.int .i64 10))), s 10 (.bin .add (.const (.int .i64 48)) (t 9)), s 11 (.conv .u8 (t 10)), s 12 (.bslice 5 1 true [(t 11)]), s 13 (.b2s (t 12)), s 14 (.mv (t 3)), s 15 (.bin .add (t 13) (t 14)), s 3 (.mv (t 15))]) (.region false [s 16 (.mv (t 0)), s 17 (.bin .quo (t 16) (.const (.int .i64 10))), s 0 (.mv (t 17))])))))) (.seq (.region false [s 18 (.mv (t 3)), s 19 (.bin .add (.const (.string (.mk #[109]))) (t 18)), s 2 (.mv (t 19))]) .ret)))))
def markText.keep : List Nat := [0, 2, 3]
def markText.res : List RRes := [.tmp 2]
theorem markText.ofS {mo : Bool} {args : List AV} {r : AV} (hr : isScalR r = true) (hn : Nat.ble args.length Try.f47.ntmps = true) (h : aCode (Kn mo Try.prog) markText.keep 0 markText.code (doneS markText.res r) ⟨argEnv 0 args, [], []⟩) : Abs.Ret mo Try.prog 47 args r [] :=
  Abs.Ret.of_irS hr Try.func47 rfl (by kernel_rfl) (Nat.le_of_ble_eq_true hn) (by kernel_rfl) (by kernel_rfl) h
abbrev markText.Ret (args : List AV) (r : AV) (frs : Fr) : Prop := Abs.Ret true Try.prog 47 args r frs
def szPair.code : ACode := (.seq (.region false [s 2 (.box (t 0)), s 4 (.mv (.const (.int .i64 0)))]) (.seq (.region false [s 5 (.mv (t 1)), s 6 (.fadr 0 (t 2)), s 7 (.load false 1 (t 6)), s 8 (.len true (t 7)), s 9 (.bin .sub (t 5) (t 8)), s 1 (.mv (t 9))]) (.seq (.seq (.region false [s 10 (.mv (t 1)), s 11 (.bin .lss (t 10) (.const (.int .i64 0)))]) (.cond (t 11) (.seq (.region false [s 4 (.mv (.const (.int .i64 (-1))))]) .ret) .skip)) (.seq (.region false [s 12 (.mv (t 1)), s 13 (.fadr 1 (t 2)), s 14 (.load false 1 (t 13)), s 15 (.len true (t 14)), s 16 (.bin .sub (t 12) (t 15)), s 1 (.mv (t 16))]) (.seq (.seq (.region false [s 17 (.mv (t 1)), s 18 (.bin .lss (t 17) (.const (.int .i64 0)))]) (.cond (t 18) (.seq (.region false [s 4 (.mv (.const (.int .i64 (-1))))]) .ret) .skip)) (.seq (.region false [s 19 (.mv (t 1)), s 4 (.mv (t 19))]) .ret))))))
def szPair.keep : List Nat := [0, 1, 2, 4]
def szPair.res : List RRes := [.tmp 4]
theorem szPair.of {mo : Bool} {args : List AV} {r : AV} {frs : Fr} (hn : Nat.ble args.length Try.f35.ntmps = true) (h : aCode (Kn mo Try.prog) szPair.keep 0 szPair.code (doneK szPair.res r frs) ⟨argEnv 0 args, [], []⟩) : Abs.Ret mo Try.prog 35 args r frs :=
  Abs.Ret.of_ir Try.func35 rfl (by kernel_rfl) (Nat.le_of_ble_eq_true hn) (by kernel_rfl) (by kernel_rfl) h
abbrev szPair.Ret (args : List AV) (r : AV) (frs : Fr) : Prop := Abs.Ret true Try.prog 35 args r frs
def szPairS.code : ACode := (.seq (.region false [s 4 (.mv (.const (.int .i64 0)))]) (.seq (.region false [s 6 (.mv (t 1)), s 7 (.mv (t 0)), s 8 (.len false (t 7)), s 9 (.bin .sub (t 6) (t 8)), s 1 (.mv (t 9))]) (.seq (.seq (.region false [s 10 (.mv (t 1)), s 11 (.bin .lss (t 10) (.const (.int .i64 0)))]) (.cond (t 11) (.seq (.region false [s 4 (.mv (.const (.int .i64 (-1))))]) .ret) .skip)) (.seq (.seq (.region false [s 5 (.mv (.const (.int .i64 0)))]) (.block 0 (.loop (.seq (.seq (.region false [s 12 (.mv (t 5)), s 13 (.mv (t 0)), s 14 (.len false (t 13)), s 15 (.bin .lss (t 12) (t 14))]) (.cond (t 15) .skip (.exit 0))) (.seq (.block 1 (.seq (.region false [s 18 (.mv (t 0)), s 19 (.mv (t 5)), s 20 (.iadr 2 (t 18) (t 19)), s 21 (.load true 2 (t 20)), s 22 (.mv (t 1)), s 23 (.call 35 [(t 21), (t 22)]), s 1 (.mv (t 23))]) (.seq (.region false [s 24 (.mv (t 1)), s 25 (.bin .lss (t 24) (.const (.int .i64 0)))]) (.cond (t 25) (.seq (.region false [s 4 (.mv (.const (.int .i64 (-1))))]) .ret) .skip)))) (.region false [s 16 (.mv (t 5)), s 17 (.bin .add (t 16) (.const (.int .i64 1))), s 5 (.mv (t 17))])))))) (.seq (.region false [s 26 (.mv (t 1)), s 4 (.mv (t 26))]) .ret)))))
def szPairS.keep : List Nat := [0, 1, 4, 5]
def szPairS.res : List RRes := [.tmp 4]
theorem szPairS.of {mo : Bool} {args : List AV} {r : AV} {frs : Fr} (hn : Nat.ble args.length Try.f8.ntmps = true) (h : aCode (Kn mo Try.prog) szPairS.keep 0 szPairS.code (doneK szPairS.res r frs) ⟨argEnv 0 args, [], []⟩) : Abs.Ret mo Try.prog 8 args r frs :=
  Abs.Ret.of_ir Try.func8 rfl (by kernel_rfl) (Nat.le_of_ble_eq_true hn) (by kernel_rfl) (by kernel_rfl) h
abbrev szPairS.Ret (args : List AV) (r : AV) (frs : Fr) : Prop := Abs.Ret true Try.prog 8 args r frs
def szPattern.code : ACode := (.seq (.region false [s 2 (.box (t 0)), s 4 (.mv (.const (.int .i64 0)))]) (.seq (.region false [s 5 (.mv (t 1)), s 6 (.fadr 0 (t 2)), s 7 (.load false 1 (t 6)), s 8 (.len true (t 7)), s 9 (.bin .sub (t 5) (t 8)), s 1 (.mv (t 9))]) (.seq (.seq (.region false [s 10 (.mv (t 1)), s 11 (.bin .lss (t 10) (.const (.int .i64 0)))]) (.cond (t 11) (.seq (.region false [s 4 (.mv (.const (.int .i64 (-1))))]) .ret) .skip)) (.seq (.region false [s 12 (.fadr 1 (t 2)), s 13 (.load false 1 (t 12)), s 14 (.mv (t 1)), s 15 (.call 34 [(t 13), (t 14)]), s 1 (.mv (t 15))]) (.seq (.seq (.region false [s 16 (.mv (t 1)), s 17 (.bin .lss (t 16) (.const (.int .i64 0)))]) (.cond (t 17) (.seq (.region false [s 4 (.mv (.const (.int .i64 (-1))))]) .ret) .skip)) (.seq (.region false [s 18 (.mv (t 1)), s 4 (.mv (t 18))]) .ret))))))
def szPattern.keep : List Nat := [0, 1, 2, 4]
def szPattern.res : List RRes := [.tmp 4]
theorem szPattern.of {mo : Bool} {args : List AV} {r : AV} {frs : Fr} (hn : Nat.ble args.length Try.f7.ntmps = true) (h : aCode (Kn mo Try.prog) szPattern.keep 0 szPattern.code (doneK szPattern.res r frs) ⟨argEnv 0 args, [], []⟩) : Abs.Ret mo Try.prog 7 args r frs :=
  Abs.Ret.of_ir Try.func7 rfl (by kernel_rfl) (Nat.le_of_ble_eq_true hn) (by kernel_rfl) (by kernel_rfl) h
abbrev szPattern.Ret (args : List AV) (r : AV) (frs : Fr) : Prop := Abs.Ret true Try.prog 7 args r frs
def szStringS.code : ACode := (.seq (.region false [s 4 (.mv (.const (.int .i64 0)))]) (.seq (.region false [s 6 (.mv (t 1)), s 7 (.mv (t 0)), s 8 (.len false (t 7)), s 9 (.bin .sub (t 6) (t 8)), s 1 (.mv (t 9))]) (.seq (.seq (.region false [s 10 (.mv (t 1)), s 11 (.bin .lss (t 10) (.const (.int .i64 0)))]) (.cond (t 11) (.seq (.region false [s 4 (.mv (.const (.int .i64 (-1))))]) .ret) .skip)) (.seq (.seq (.region false [s 5 (.mv (.const (.int .i64 0)))]) (.block 0 (.loop (.seq (.seq (.region false [s 12 (.mv (t 5)), s 13 (.mv (t 0)), s 14 (.len false (t 13)), s 15 (.bin .lss (t 12) (t 14))]) (.cond (t 15) .skip (.exit 0))) (.seq (.block 1 (.seq (.region false [s 18 (.mv (t 1)), s 19 (.mv (t 0)), s 20 (.mv (t 5)), s 21 (.iadr 1 (t 19) (t 20)), s 22 (.load false 1 (t 21)), s 23 (.len true (t 22)), s 24 (.bin .sub (t 18) (t 23)), s 1 (.mv (t 24))]) (.seq (.region false [s 25 (.mv (t 1)), s 26 (.bin .lss (t 25) (.const (.int .i64 0)))]) (.cond (t 26) (.seq (.region false [s 4 (.mv (.const (.int .i64 (-1))))]) .ret) .skip)))) (.region false [s 16 (.mv (t 5)), s 17 (.bin .add (t 16) (.const (.int .i64 1))), s 5 (.mv (t 17))])))))) (.seq (.region false [s 27 (.mv (t 1)), s 4 (.mv (t 27))]) .ret)))))
def szStringS.keep : List Nat := [0, 1, 4, 5]
def szStringS.res : List RRes := [.tmp 4]
theorem szStringS.of {mo : Bool} {args : List AV} {r : AV} {frs : Fr} (hn : Nat.ble args.length Try.f34.ntmps = true) (h : aCode (Kn mo Try.prog) szStringS.keep 0 szStringS.code (doneK szStringS.res r frs) ⟨argEnv 0 args, [], []⟩) : Abs.Ret mo Try.prog 34 args r frs :=
  Abs.Ret.of_ir Try.func34 rfl (by kernel_rfl) (Nat.le_of_ble_eq_true hn) (by kernel_rfl) (by kernel_rfl) h
abbrev szStringS.Ret (args : List AV) (r : AV) (frs : Fr) : Prop := Abs.Ret true Try.prog 34 args r frs
def toPair.code : ACode := (.seq (.region false [s 1 (.box (t 0)), s 2 (.alloc [(.string (.mk (.mk []))), (.string (.mk (.mk [])))])]) (.seq (.region false [s 3 (.alloc [(.string (.mk (.mk []))), (.string (.mk (.mk [])))])]) (.seq (.region false [s 4 (.fadr 0 (t 1)), s 5 (.load false 1 (t 4)), s 6 (.fadr 0 (t 3)), ⟨none, none, (.store 1 (t 6) (t 5))⟩]) (.seq (.region false [s 7 (.fadr 1 (t 1)), s 8 (.load false 1 (t 7)), s 9 (.fadr 1 (t 3)), ⟨none, none, (.store 1 (t 9) (t 8))⟩]) (.seq (.region false [s 10 (.load true 2 (t 3)), ⟨none, none, (.store 2 (t 2) (t 10))⟩]) .ret)))))
def toPair.keep : List Nat := [0, 1, 2, 3]
def toPair.res : List RRes := [.cell 2 true 2]
theorem toPair.of {mo : Bool} {args : List AV} {r : AV} {frs : Fr} (hn : Nat.ble args.length Try.f40.ntmps = true) (h : aCode (Kn mo Try.prog) toPair.keep 0 toPair.code (doneK toPair.res r frs) ⟨argEnv 0 args, [], []⟩) : Abs.Ret mo Try.prog 40 args r frs :=
  Abs.Ret.of_ir Try.func40 rfl (by kernel_rfl) (Nat.le_of_ble_eq_true hn) (by kernel_rfl) (by kernel_rfl) h
abbrev toPair.Ret (args : List AV) (r : AV) (frs : Fr) : Prop := Abs.Ret true Try.prog 40 args r frs
def toPairS.code : ACode := (.seq (.region false [s 2 (.mv (.const (.slice none 0 0)))]) (.seq (.region false [s 5 (.mv (t 0)), s 6 (.len false (t 5)), s 7 (.make 66 [(.string (.mk (.mk []))), (.string (.mk (.mk [])))] 2 32 (t 6)), s 3 (.mv (t 7))]) (.seq (.seq (.region false [s 4 (.mv (.const (.int .i64 0)))]) (.block 0 (.loop (.seq (.seq (.region false [s 8 (.mv (t 4)), s 9 (.mv (t 0)), s 10 (.len false (t 9)), s 11 (.bin .lss (t 8) (t 10))]) (.cond (t 11) .skip (.exit 0))) (.seq (.block 1 (.region false [s 14 (.mv (t 3)), s 15 (.mv (t 4)), s 16 (.mv (t 0)), s 17 (.mv (t 4)), s 18 (.iadr 2 (t 16) (t 17)), s 19 (.load true 2 (t 18)), s 20 (.call 40 [(t 19)]), s 21 (.iadr 2 (t 14) (t 15)), ⟨none, none, (.store 2 (t 21) (t 20))⟩])) (.region false [s 12 (.mv (t 4)), s 13 (.bin .add (t 12) (.const (.int .i64 1))), s 4 (.mv (t 13))])))))) (.seq (.region false [s 22 (.mv (t 3)), s 2 (.mv (t 22))]) .ret))))
def toPairS.keep : List Nat := [0, 2, 3, 4]
def toPairS.res : List RRes := [.tmp 2]
theorem toPairS.of {mo : Bool} {args : List AV} {r : AV} {frs : Fr} (hn : Nat.ble args.length Try.f11.ntmps = true) (h : aCode (Kn mo Try.prog) toPairS.keep 0 toPairS.code (doneK toPairS.res r frs) ⟨argEnv 0 args, [], []⟩) : Abs.Ret mo Try.prog 11 args r frs :=
  Abs.Ret.of_ir Try.func11 rfl (by kernel_rfl) (Nat.le_of_ble_eq_true hn) (by kernel_rfl) (by kernel_rfl) h
abbrev toPairS.Own (args : List AV) (x : Tr) : Prop := Abs.Own true Try.prog 11 args x
abbrev toPairS.Ret (args : List AV) (r : AV) (frs : Fr) : Prop := Abs.Ret true Try.prog 11 args r frs
def toPattern.code : ACode := (.seq (.region false [s 1 (.box (t 0)), s 2 (.alloc [(.string (.mk (.mk []))), (.slice none 0 0)])]) (.seq (.region false [s 3 (.alloc [(.string (.mk (.mk []))), (.slice none 0 0)])]) (.seq (.region false [s 4 (.fadr 0 (t 1)), s 5 (.load false 1 (t 4)), s 6 (.fadr 0 (t 3)), ⟨none, none, (.store 1 (t 6) (t 5))⟩]) (.seq (.region false [s 7 (.fadr 1 (t 1)), s 8 (.load false 1 (t 7)), s 9 (.call 39 [(t 8)]), s 10 (.fadr 1 (t 3)), ⟨none, none, (.store 1 (t 10) (t 9))⟩]) (.seq (.region false [s 11 (.load true 2 (t 3)), ⟨none, none, (.store 2 (t 2) (t 11))⟩]) .ret)))))
def toPattern.keep : List Nat := [0, 1, 2, 3]
def toPattern.res : List RRes := [.cell 2 true 2]
theorem toPattern.of {mo : Bool} {args : List AV} {r : AV} {frs : Fr} (hn : Nat.ble args.length Try.f10.ntmps = true) (h : aCode (Kn mo Try.prog) toPattern.keep 0 toPattern.code (doneK toPattern.res r frs) ⟨argEnv 0 args, [], []⟩) : Abs.Ret mo Try.prog 10 args r frs :=
  Abs.Ret.of_ir Try.func10 rfl (by kernel_rfl) (Nat.le_of_ble_eq_true hn) (by kernel_rfl) (by kernel_rfl) h
abbrev toPattern.Own (args : List AV) (x : Tr) : Prop := Abs.Own true Try.prog 10 args x
abbrev toPattern.Ret (args : List AV) (r : AV) (frs : Fr) : Prop := Abs.Ret true Try.prog 10 args r frs
def toStringS.code : ACode := (.seq (.region false [s 2 (.mv (.const (.slice none 0 0)))]) (.seq (.region false [s 5 (.mv (t 0)), s 6 (.len false (t 5)), s 7 (.make 9 [(.string (.mk (.mk [])))] 1 16 (t 6)), s 3 (.mv (t 7))]) (.seq (.seq (.region false [s 4 (.mv (.const (.int .i64 0)))]) (.block 0 (.loop (.seq (.seq (.region false [s 8 (.mv (t 4)), s 9 (.mv (t 0)), s 10 (.len false (t 9)), s 11 (.bin .lss (t 8) (t 10))]) (.cond (t 11) .skip (.exit 0))) (.seq (.block 1 (.region false [s 14 (.mv (t 3)), s 15 (.mv (t 4)), s 16 (.mv (t 0)), s 17 (.mv (t 4)), s 18 (.iadr 1 (t 16) (t 17)), s 19 (.load false 1 (t 18)), s 20 (.iadr 1 (t 14) (t 15)), ⟨none, none, (.store 1 (t 20) (t 19))⟩])) (.region false [s 12 (.mv (t 4)), s 13 (.bin .add (t 12) (.const (.int .i64 1))), s 4 (.mv (t 13))])))))) (.seq (.region false [s 21 (.mv (t 3)), s 2 (.mv (t 21))]) .ret))))
def toStringS.keep : List Nat := [0, 2, 3, 4]
def toStringS.res : List RRes := [.tmp 2]
theorem toStringS.of {mo : Bool} {args : List AV} {r : AV} {frs : Fr} (hn : Nat.ble args.length Try.f39.ntmps = true) (h : aCode (Kn mo Try.prog) toStringS.keep 0 toStringS.code (doneK toStringS.res r frs) ⟨argEnv 0 args, [], []⟩) : Abs.Ret mo Try.prog 39 args r frs :=
  Abs.Ret.of_ir Try.func39 rfl (by kernel_rfl) (Nat.le_of_ble_eq_true hn) (by kernel_rfl) (by kernel_rfl) h
abbrev toStringS.Ret (args : List AV) (r : AV) (frs : Fr) : Prop := Abs.Ret true Try.prog 39 args r frs
end Go.Proofs.Ytlmlfkjdgnpmjaa
namespace Go.Proofs.Ytlmlfkjdgnpmjaa
open Abs
def part (z : List AV) (xs : List (List AV)) (i : Nat) : List AV := (xs.take i).flatten ++ (List.replicate (xs.length - i) z).flatten
theorem setAt_mid {α : Type} : ∀ (x a b c : List α), b.length = x.length → setAt (a ++ b ++ c) a.length x = a ++ x ++ c
  | [], a, b, c, h => by cases b with
    | nil => rfl
    | cons _ _ => simp at h
  | y :: x, a, b, c, h => by
    cases b with
    | nil => simp at h
    | cons b0 b =>
      have h1 : (a ++ b0 :: b ++ c).set a.length y = (a ++ [y]) ++ b ++ c := by simp
      have h2 : a.length + 1 = (a ++ [y]).length := by simp
      rw [setAt, h1, h2, setAt_mid x (a ++ [y]) b c (by simpa using h)]
      simp
theorem part_set {z : List AV} {xs : List (List AV)} {i sz : Nat} (hz : z.length = sz) (hx : ∀ x ∈ xs, x.length = sz) {x : List AV} (hi : xs[i]? = some x) : setAt (part z xs i) (i * sz) x = part z xs (i + 1) := by
  have hlt := getElem?_lt hi
  have h1 : (xs.take i).flatten.length = i * sz := by rw [length_flatten' sz _ (fun x h => hx x (List.mem_of_mem_take h)), List.length_take]; congr 1; omega
  obtain ⟨k, hk⟩ : ∃ k, xs.length - i = k + 1 := ⟨xs.length - i - 1, by omega⟩
  have hk2 : xs.length - (i + 1) = k := by omega
  have h2 : part z xs i = (xs.take i).flatten ++ z ++ (List.replicate k z).flatten := by
    rw [part, hk, List.replicate_succ, List.flatten_cons, List.append_assoc]
  have h3 : xs.take (i + 1) = xs.take i ++ [x] := by rw [List.take_add_one, hi]; rfl
  rw [h2, ← h1, setAt_mid _ _ _ _ (by rw [hz, hx x (List.mem_of_getElem? hi)]), part, hk2, h3]
  simp
theorem part_made {z : List Value} {xs : List (List AV)} {sz m : Nat} (hz : z.length = sz) (hp : 0 < sz) (hm : m = xs.length * sz) : madeK z m = part (z.map constAV) xs 0 := by
  subst hm
  have h1 : (List.replicate xs.length (z.map constAV)).flatten.length = xs.length * sz := by rw [length_flatten' sz]; · simp
                                                                                             · intro x hx; rw [List.eq_of_mem_replicate hx]; simp [hz]
  apply List.ext_getElem?
  intro i
  by_cases hi : i < xs.length * sz
  · have hq : i / sz < xs.length := (Nat.div_lt_iff_lt_mul hp).2 hi
    have hr : i % sz < sz := Nat.mod_lt _ hp
    have hf := flatten_get sz (List.replicate xs.length (z.map constAV)) (i / sz) (i % sz) (z.map constAV) (constAV (z.getD (i % sz) undef)) (fun x hx => by rw [List.eq_of_mem_replicate hx]; simp [hz]) (by simp [hq]) (by simp [hz, hr, List.getD])
    rw [show i / sz * sz + i % sz = i by rw [Nat.mul_comm]; exact Nat.div_add_mod _ _] at hf
    simp only [part, List.take_zero, List.flatten_nil, List.nil_append, Nat.sub_zero]
    rw [hf, madeK]
    simp [hi, hz]
  · rw [List.getElem?_eq_none (by simp [madeK]; omega)]
    simp only [part, List.take_zero, List.flatten_nil, List.nil_append, Nat.sub_zero]
    rw [List.getElem?_eq_none (by rw [h1]; omega)]
theorem part_all (z : List AV) (xs : List (List AV)) : part z xs xs.length = xs.flatten := by simp [part]
theorem part_len {z : List AV} {xs : List (List AV)} {i sz : Nat} (hz : z.length = sz) (hx : ∀ x ∈ xs, x.length = sz) (hi : i ≤ xs.length) : (part z xs i).length = xs.length * sz := by
  rw [part, List.length_append, length_flatten' sz _ (fun x h => hx x (List.mem_of_mem_take h)), length_flatten' sz _ (fun x h => by rw [List.eq_of_mem_replicate h]; exact hz), List.length_take, List.length_replicate, ← Nat.add_mul]
  congr 1; omega
theorem strs_get {l : List Str} {i : Nat} (hi : i < l.length) : (strs l)[i]? = some [.str (l.getD i [])] := by simp [strs_eq, List.getD, hi]
theorem toStringS.ret (l : List Str) (hl : l.length ≤ 1048576) : toStringS.Ret [.list none (strs l)] (.list (some 0) (strs l)) [(9, 1, l.length)] := by
  refine toStringS.of rfl ?_
  repeat' first
    | contradiction | exact trivial
    | (conv => whnf
       first | refine Need.mk (fun h => h) ?_ | refine Need.mk rfl ?_ | refine Need.mk ⟨rfl, Nat.le_of_ble_eq_true rfl⟩ ?_ | refine Need.mk (Nat.le_of_ble_eq_true rfl) ?_ | refine Need.fin ?_ | refine Need.mk ?_ ?_ | refine Ix.strsF rfl ?_ | refine Ix.strs rfl ?_ ?_ | refine Cut.strs rfl ?_ ?_ | refine Ix.mapF (fun _ => rfl) ?_ | refine Ix.map (fun _ => rfl) ?_ ?_ | refine Cut.map (fun _ => rfl) ?_ ?_ | refine Fork.yes (by assumption) ?_ | refine Fork.no (by assumption) ?_ | refine Fork.decYes (by omega) ?_ | refine Fork.decNo (by omega) ?_ | refine Fork.dec (fun _ => ?_) (fun _ => ?_) | refine Fork.bne (fun _ => ?_) (fun _ => ?_) | refine Fork.beq (fun _ => ?_) (fun _ => ?_) | refine Fork.seq (fun _ => ?_) (fun _ => ?_) | refine Fork.sne (fun _ => ?_) (fun _ => ?_) | refine Fork.neg (fun _ => ?_) (fun _ => ?_) | refine Fork.mk (fun _ => ?_) (fun _ => ?_) | refine HAlt.mk ?_ ?_ | apply HJoin.mk3 | exact HEnd.mk rfl rfl rfl | refine HEnd.mk ?_ ?_ ?_ | refine Round.mk ?_ | refine NilQ.mk (fun b hb => ?_) | refine forceK_of ?_ | refine forceBx_of ?_ | refine unG_old ?_ | refine unG_gv ?_ | refine Lit.read rfl ?_ | refine FinVal.keep ?_ | refine FinAgg.keep ?_ | refine Final.mk rfl rfl | refine Final.mk ?_ rfl | refine Final.mk ?_ ?_ | refine FinalT.mk ?_ ?_ | refine FinalC.allA ?_)
    | refine AV.bool_congr ?_ | refine AV.int_congr ?_ | refine AV.str_congr ?_ | refine AV.list_congr ?_ | with_reducible rfl | refine fr1 ?_ | refine fr2 ?_ ?_
  refine ALoop.mk Nat (fun i => ⟨[(0, .list none (strs l)), (3, .bsl 0 l.length), (4, .val (.int .i64 i))], [.cells (.row 9 1) (part [.str []] (strs l) i)], []⟩) (fun i => i ≤ l.length) (fun i => l.length - i) ⟨0, Nat.zero_le _, ?_⟩ (fun i hi => ?_)
  · repeat' first
      | exact trivial | refine Weak.mk ?_ ?_ ?_ ?_ (Or.inl (Nat.le_of_ble_eq_true rfl)) | refine Weak.mk ?_ ?_ ?_ ?_ (Or.inr ⟨(by repeat' first | exact trivial | exact Nat.le_of_ble_eq_true rfl | refine And.intro ?_ ?_), (by repeat' first | exact trivial | exact Nat.le_of_ble_eq_true rfl | refine And.intro ?_ ?_)⟩) | refine Weak.mk ?_ ?_ ?_ ?_ ?_ | refine And.intro ?_ ?_ | with_reducible rfl | exact Nat.le_of_ble_eq_true rfl | refine fr1 ?_ | refine fr2 ?_ ?_ | refine AV.int_congr ?_ | refine AV.bool_congr ?_ | refine AV.str_congr ?_ | refine AV.list_congr ?_ | refine AV.bsl_congr ?_ ?_ | (apply rfl)
    · simp
    · simp only [List.nil_append, List.length_cons, List.length_nil, List.take_succ_cons, List.take_zero]
      rw [part_made (xs := strs l) (sz := 1) rfl (by decide) (by simp)]; rfl
  repeat' first
    | contradiction | exact trivial
    | (conv => whnf
       first | refine Need.mk (fun h => h) ?_ | refine Need.mk rfl ?_ | refine Need.mk ⟨rfl, Nat.le_of_ble_eq_true rfl⟩ ?_ | refine Need.mk (Nat.le_of_ble_eq_true rfl) ?_ | refine Need.fin ?_ | refine Need.mk ?_ ?_ | refine Ix.strsF rfl ?_ | refine Ix.strs rfl ?_ ?_ | refine Cut.strs rfl ?_ ?_ | refine Ix.mapF (fun _ => rfl) ?_ | refine Ix.map (fun _ => rfl) ?_ ?_ | refine Cut.map (fun _ => rfl) ?_ ?_ | refine Fork.yes (by assumption) ?_ | refine Fork.no (by assumption) ?_ | refine Fork.decYes (by omega) ?_ | refine Fork.decNo (by omega) ?_ | refine Fork.dec (fun _ => ?_) (fun _ => ?_) | refine Fork.bne (fun _ => ?_) (fun _ => ?_) | refine Fork.beq (fun _ => ?_) (fun _ => ?_) | refine Fork.seq (fun _ => ?_) (fun _ => ?_) | refine Fork.sne (fun _ => ?_) (fun _ => ?_) | refine Fork.neg (fun _ => ?_) (fun _ => ?_) | refine Fork.mk (fun _ => ?_) (fun _ => ?_) | refine HAlt.mk ?_ ?_ | apply HJoin.mk3 | exact HEnd.mk rfl rfl rfl | refine HEnd.mk ?_ ?_ ?_ | refine Round.mk ?_ | refine NilQ.mk (fun b hb => ?_) | refine forceK_of ?_ | refine forceBx_of ?_ | refine unG_old ?_ | refine unG_gv ?_ | refine Lit.read rfl ?_ | refine FinVal.keep ?_ | refine FinAgg.keep ?_ | refine Final.mk rfl rfl | refine Final.mk ?_ rfl | refine Final.mk ?_ ?_ | refine FinalT.mk ?_ ?_ | refine FinalC.allA ?_)
    | refine AV.bool_congr ?_ | refine AV.int_congr ?_ | refine AV.str_congr ?_ | refine AV.list_congr ?_ | with_reducible rfl | refine fr1 ?_ | refine fr2 ?_ ?_
  · rename_i h
    rw [length_strs] at h
    rw [part_len (sz := 1) rfl (strs_sz l) (by simp; exact hi), Int.toNat_natCast, length_strs]
    exact ⟨rfl, by omega⟩
  · rename_i h
    rw [length_strs] at h
    refine ⟨i + 1, by omega, ?_, by omega⟩
    repeat' first
      | exact trivial | refine Weak.mk ?_ ?_ ?_ ?_ (Or.inl (Nat.le_of_ble_eq_true rfl)) | refine Weak.mk ?_ ?_ ?_ ?_ (Or.inr ⟨(by repeat' first | exact trivial | exact Nat.le_of_ble_eq_true rfl | refine And.intro ?_ ?_), (by repeat' first | exact trivial | exact Nat.le_of_ble_eq_true rfl | refine And.intro ?_ ?_)⟩) | refine Weak.mk ?_ ?_ ?_ ?_ ?_ | refine And.intro ?_ ?_ | with_reducible rfl | exact Nat.le_of_ble_eq_true rfl | refine fr1 ?_ | refine fr2 ?_ ?_ | refine AV.int_congr ?_ | refine AV.bool_congr ?_ | refine AV.str_congr ?_ | refine AV.list_congr ?_ | refine AV.bsl_congr ?_ ?_ | (apply rfl)
    · rw [wrap64 (by omega) (by omega)]; rfl
    · simp only [Int.toNat_natCast]
      have := part_set (z := [.str []]) (sz := 1) rfl (strs_sz l) (strs_get (l := l) (i := i) (by omega))
      simp only [List.set_cons_zero, List.take_succ_cons, List.take_zero, List.length_cons, List.length_nil, this]
  · rename_i h
    rw [length_strs] at h
    conv => whnf
    have : i = l.length := by omega
    subst this
    refine FreezeD.flat (Freeze.mk (strs l) _ 9 1 rfl (by have := part_all [.str []] (strs l); rwa [length_strs] at this) (by simp) (strs_sz l) (fun c hc => ?_) ?_)
    · have e := part_all [.str []] (strs l)
      rw [length_strs] at e
      rw [e, List.mem_flatten] at hc
      obtain ⟨x, hx, hc⟩ := hc
      rw [strs_eq] at hx
      obtain ⟨s, _, rfl⟩ := List.mem_map.1 hx
      simp at hc; subst hc; rfl
    · exact Final.mk rfl rfl
theorem own_strs (fr : Fr) : ∀ l : List Str, OwnA fr (l.map sq).flatten (strs l).flatten []
  | [] => .nil
  | s :: l => .s s (own_strs fr l)
theorem eqStringS.ret (l m : List Str) (hl : l.length ≤ 1099511627776) : eqStringS.Ret [.list none (strs l), .list none (strs m)] (.val (.bool (decide (l = m)))) [] := by
  refine eqStringS.of rfl ?_
  repeat' first
    | contradiction | exact trivial
    | (conv => whnf
       first | refine Need.mk (fun h => h) ?_ | refine Need.mk rfl ?_ | refine Need.mk ⟨rfl, Nat.le_of_ble_eq_true rfl⟩ ?_ | refine Need.mk (Nat.le_of_ble_eq_true rfl) ?_ | refine Need.fin ?_ | refine Need.mk ?_ ?_ | refine Ix.strsF rfl ?_ | refine Ix.strs rfl ?_ ?_ | refine Cut.strs rfl ?_ ?_ | refine Ix.mapF (fun _ => rfl) ?_ | refine Ix.map (fun _ => rfl) ?_ ?_ | refine Cut.map (fun _ => rfl) ?_ ?_ | refine Fork.yes (by assumption) ?_ | refine Fork.no (by assumption) ?_ | refine Fork.decYes (by omega) ?_ | refine Fork.decNo (by omega) ?_ | refine Fork.dec (fun _ => ?_) (fun _ => ?_) | refine Fork.bne (fun _ => ?_) (fun _ => ?_) | refine Fork.beq (fun _ => ?_) (fun _ => ?_) | refine Fork.seq (fun _ => ?_) (fun _ => ?_) | refine Fork.sne (fun _ => ?_) (fun _ => ?_) | refine Fork.neg (fun _ => ?_) (fun _ => ?_) | refine Fork.mk (fun _ => ?_) (fun _ => ?_) | refine HAlt.mk ?_ ?_ | apply HJoin.mk3 | exact HEnd.mk rfl rfl rfl | refine HEnd.mk ?_ ?_ ?_ | refine Round.mk ?_ | refine NilQ.mk (fun b hb => ?_) | refine forceK_of ?_ | refine forceBx_of ?_ | refine unG_old ?_ | refine unG_gv ?_ | refine Lit.read rfl ?_ | refine FinVal.keep ?_ | refine FinAgg.keep ?_ | refine Final.mk rfl rfl | refine Final.mk ?_ rfl | refine Final.mk ?_ ?_ | refine FinalT.mk ?_ ?_ | refine FinalC.allA ?_)
    | refine AV.bool_congr ?_ | refine AV.int_congr ?_ | refine AV.str_congr ?_ | refine AV.list_congr ?_ | with_reducible rfl | refine fr1 ?_ | refine fr2 ?_ ?_
  · rename_i h
    rw [length_strs, length_strs] at h
    have h3 : ¬ l = m := fun e => h (by rw [e])
    simp [h3]
  rename_i h
  rw [length_strs, length_strs] at h
  have h : l.length = m.length := by omega
  repeat' first
    | contradiction | exact trivial
    | (conv => whnf
       first | refine Need.mk (fun h => h) ?_ | refine Need.mk rfl ?_ | refine Need.mk ⟨rfl, Nat.le_of_ble_eq_true rfl⟩ ?_ | refine Need.mk (Nat.le_of_ble_eq_true rfl) ?_ | refine Need.fin ?_ | refine Need.mk ?_ ?_ | refine Ix.strsF rfl ?_ | refine Ix.strs rfl ?_ ?_ | refine Cut.strs rfl ?_ ?_ | refine Ix.mapF (fun _ => rfl) ?_ | refine Ix.map (fun _ => rfl) ?_ ?_ | refine Cut.map (fun _ => rfl) ?_ ?_ | refine Fork.yes (by assumption) ?_ | refine Fork.no (by assumption) ?_ | refine Fork.decYes (by omega) ?_ | refine Fork.decNo (by omega) ?_ | refine Fork.dec (fun _ => ?_) (fun _ => ?_) | refine Fork.bne (fun _ => ?_) (fun _ => ?_) | refine Fork.beq (fun _ => ?_) (fun _ => ?_) | refine Fork.seq (fun _ => ?_) (fun _ => ?_) | refine Fork.sne (fun _ => ?_) (fun _ => ?_) | refine Fork.neg (fun _ => ?_) (fun _ => ?_) | refine Fork.mk (fun _ => ?_) (fun _ => ?_) | refine HAlt.mk ?_ ?_ | apply HJoin.mk3 | exact HEnd.mk rfl rfl rfl | refine HEnd.mk ?_ ?_ ?_ | refine Round.mk ?_ | refine NilQ.mk (fun b hb => ?_) | refine forceK_of ?_ | refine forceBx_of ?_ | refine unG_old ?_ | refine unG_gv ?_ | refine Lit.read rfl ?_ | refine FinVal.keep ?_ | refine FinAgg.keep ?_ | refine Final.mk rfl rfl | refine Final.mk ?_ rfl | refine Final.mk ?_ ?_ | refine FinalT.mk ?_ ?_ | refine FinalC.allA ?_)
    | refine AV.bool_congr ?_ | refine AV.int_congr ?_ | refine AV.str_congr ?_ | refine AV.list_congr ?_ | with_reducible rfl | refine fr1 ?_ | refine fr2 ?_ ?_
  refine ALoop.mk Nat (fun i => ⟨[(0, .list none (strs l)), (1, .list none (strs m)), (5, .val (.int .i64 i))], [], []⟩) (fun i => i ≤ l.length ∧ l.take i = m.take i) (fun i => l.length - i) ⟨0, ⟨Nat.zero_le _, rfl⟩, ?_⟩ (fun i hi => ?_)
  · repeat' first
      | exact trivial | refine Weak.mk ?_ ?_ ?_ ?_ (Or.inl (Nat.le_of_ble_eq_true rfl)) | refine Weak.mk ?_ ?_ ?_ ?_ (Or.inr ⟨(by repeat' first | exact trivial | exact Nat.le_of_ble_eq_true rfl | refine And.intro ?_ ?_), (by repeat' first | exact trivial | exact Nat.le_of_ble_eq_true rfl | refine And.intro ?_ ?_)⟩) | refine Weak.mk ?_ ?_ ?_ ?_ ?_ | refine And.intro ?_ ?_ | with_reducible rfl | exact Nat.le_of_ble_eq_true rfl | refine fr1 ?_ | refine fr2 ?_ ?_ | refine AV.int_congr ?_ | refine AV.bool_congr ?_ | refine AV.str_congr ?_ | refine AV.list_congr ?_ | refine AV.bsl_congr ?_ ?_ | (apply rfl)
  repeat' first
    | contradiction | exact trivial
    | (conv => whnf
       first | refine Need.mk (fun h => h) ?_ | refine Need.mk rfl ?_ | refine Need.mk ⟨rfl, Nat.le_of_ble_eq_true rfl⟩ ?_ | refine Need.mk (Nat.le_of_ble_eq_true rfl) ?_ | refine Need.fin ?_ | refine Need.mk ?_ ?_ | refine Ix.strsF rfl ?_ | refine Ix.strs rfl ?_ ?_ | refine Cut.strs rfl ?_ ?_ | refine Ix.mapF (fun _ => rfl) ?_ | refine Ix.map (fun _ => rfl) ?_ ?_ | refine Cut.map (fun _ => rfl) ?_ ?_ | refine Fork.yes (by assumption) ?_ | refine Fork.no (by assumption) ?_ | refine Fork.decYes (by omega) ?_ | refine Fork.decNo (by omega) ?_ | refine Fork.dec (fun _ => ?_) (fun _ => ?_) | refine Fork.bne (fun _ => ?_) (fun _ => ?_) | refine Fork.beq (fun _ => ?_) (fun _ => ?_) | refine Fork.seq (fun _ => ?_) (fun _ => ?_) | refine Fork.sne (fun _ => ?_) (fun _ => ?_) | refine Fork.neg (fun _ => ?_) (fun _ => ?_) | refine Fork.mk (fun _ => ?_) (fun _ => ?_) | refine HAlt.mk ?_ ?_ | apply HJoin.mk3 | exact HEnd.mk rfl rfl rfl | refine HEnd.mk ?_ ?_ ?_ | refine Round.mk ?_ | refine NilQ.mk (fun b hb => ?_) | refine forceK_of ?_ | refine forceBx_of ?_ | refine unG_old ?_ | refine unG_gv ?_ | refine Lit.read rfl ?_ | refine FinVal.keep ?_ | refine FinAgg.keep ?_ | refine Final.mk rfl rfl | refine Final.mk ?_ rfl | refine Final.mk ?_ ?_ | refine FinalT.mk ?_ ?_ | refine FinalC.allA ?_)
    | refine AV.bool_congr ?_ | refine AV.int_congr ?_ | refine AV.str_congr ?_ | refine AV.list_congr ?_ | with_reducible rfl | refine fr1 ?_ | refine fr2 ?_ ?_
  · rename_i h1 h2
    have h3 : ¬ l = m := fun e => h2 (by rw [e])
    simp [h3]
  · rename_i h1 h2
    rw [length_strs] at h1
    refine ⟨i + 1, ⟨by omega, ?_⟩, ?_, by omega⟩
    · rw [take_succ' [] (by omega), take_succ' (l := m) [] (by omega), hi.2]
      rw [Int.toNat_natCast] at h2
      have h2' : l.getD i [] = m.getD i [] := h2
      rw [h2']
    · repeat' first
        | exact trivial | refine Weak.mk ?_ ?_ ?_ ?_ (Or.inl (Nat.le_of_ble_eq_true rfl)) | refine Weak.mk ?_ ?_ ?_ ?_ (Or.inr ⟨(by repeat' first | exact trivial | exact Nat.le_of_ble_eq_true rfl | refine And.intro ?_ ?_), (by repeat' first | exact trivial | exact Nat.le_of_ble_eq_true rfl | refine And.intro ?_ ?_)⟩) | refine Weak.mk ?_ ?_ ?_ ?_ ?_ | refine And.intro ?_ ?_ | with_reducible rfl | exact Nat.le_of_ble_eq_true rfl | refine fr1 ?_ | refine fr2 ?_ ?_ | refine AV.int_congr ?_ | refine AV.bool_congr ?_ | refine AV.str_congr ?_ | refine AV.list_congr ?_ | refine AV.bsl_congr ?_ ?_ | (apply rfl)
      rw [wrap64 (by omega) (by omega)]; rfl
  · rename_i h1
    rw [length_strs] at h1
    have h2 := hi.2
    rw [List.take_of_length_le (by omega), List.take_of_length_le (by omega)] at h2
    simp [h2]
def szL : List Str → Nat
  | [] => 0
  | s :: l => s.length + szL l
def szT (l : List Str) : Nat := l.length + szL l
theorem szL_take_succ {l : List Str} {i : Nat} (hi : i < l.length) : szL (l.take (i + 1)) = szL (l.take i) + (l.getD i []).length := by
  induction l generalizing i with
  | nil => simp at hi
  | cons s l ih =>
    cases i with
    | zero => simp [szL]
    | succ i => simp only [List.take_succ_cons, szL, ih (show i < l.length by simpa using hi)]; simp [Nat.add_assoc]
theorem szL_le_take (l : List Str) (i : Nat) : szL (l.take i) ≤ szL l := by
  induction l generalizing i with
  | nil => simp [szL]
  | cons s l ih => cases i with
    | zero => simp [szL]
    | succ i => simp only [List.take_succ_cons, szL]; have := ih i; omega
/-- what is left of a, or -1 -/
def left (a : Int) (n : Nat) : Int := if a - n < 0 then -1 else a - n
theorem left_eq {a : Int} {n : Nat} {x : Int} (h : (x = -1 ∧ a < n) ∨ (x = a - n ∧ ¬ a < n)) : x = left a n := by unfold left; split <;> omega
theorem szStringS.ret (l : List Str) (a : Int) (h0 : 0 ≤ a) (ha : a ≤ 1048576) (hl : l.length ≤ 9223372036854775807) (hs : ∀ s ∈ l, s.length ≤ 9223372036854775807) :
    szStringS.Ret [.list none (strs l), .val (.int .i64 a)] (.val (.int .i64 (left a (szT l)))) [] := by
  refine szStringS.of rfl ?_
  have hw : IntKind.i64.wrap (a - ((strs l).length : Int)) = a - l.length := by rw [length_strs]; exact wrap64 (by omega) (by omega)
  repeat' first
    | contradiction | exact trivial
    | (conv => whnf
       first | refine Need.mk (fun h => h) ?_ | refine Need.mk rfl ?_ | refine Need.mk ⟨rfl, Nat.le_of_ble_eq_true rfl⟩ ?_ | refine Need.mk (Nat.le_of_ble_eq_true rfl) ?_ | refine Need.fin ?_ | refine Need.mk ?_ ?_ | refine Ix.strsF rfl ?_ | refine Ix.strs rfl ?_ ?_ | refine Cut.strs rfl ?_ ?_ | refine Ix.mapF (fun _ => rfl) ?_ | refine Ix.map (fun _ => rfl) ?_ ?_ | refine Cut.map (fun _ => rfl) ?_ ?_ | refine Fork.yes (by assumption) ?_ | refine Fork.no (by assumption) ?_ | refine Fork.decYes (by omega) ?_ | refine Fork.decNo (by omega) ?_ | refine Fork.dec (fun _ => ?_) (fun _ => ?_) | refine Fork.bne (fun _ => ?_) (fun _ => ?_) | refine Fork.beq (fun _ => ?_) (fun _ => ?_) | refine Fork.seq (fun _ => ?_) (fun _ => ?_) | refine Fork.sne (fun _ => ?_) (fun _ => ?_) | refine Fork.neg (fun _ => ?_) (fun _ => ?_) | refine Fork.mk (fun _ => ?_) (fun _ => ?_) | refine HAlt.mk ?_ ?_ | apply HJoin.mk3 | exact HEnd.mk rfl rfl rfl | refine HEnd.mk ?_ ?_ ?_ | refine Round.mk ?_ | refine NilQ.mk (fun b hb => ?_) | refine forceK_of ?_ | refine forceBx_of ?_ | refine unG_old ?_ | refine unG_gv ?_ | refine Lit.read rfl ?_ | refine FinVal.keep ?_ | refine FinAgg.keep ?_ | refine Final.mk rfl rfl | refine Final.mk ?_ rfl | refine Final.mk ?_ ?_ | refine FinalT.mk ?_ ?_ | refine FinalC.allA ?_)
    | refine AV.bool_congr ?_ | refine AV.int_congr ?_ | refine AV.str_congr ?_ | refine AV.list_congr ?_ | with_reducible rfl | refine fr1 ?_ | refine fr2 ?_ ?_
  · rename_i h
    rw [hw] at h
    rw [left, if_pos (by unfold szT; omega)]
  rename_i h
  rw [hw] at h
  repeat' first
    | contradiction | exact trivial
    | (conv => whnf
       first | refine Need.mk (fun h => h) ?_ | refine Need.mk rfl ?_ | refine Need.mk ⟨rfl, Nat.le_of_ble_eq_true rfl⟩ ?_ | refine Need.mk (Nat.le_of_ble_eq_true rfl) ?_ | refine Need.fin ?_ | refine Need.mk ?_ ?_ | refine Ix.strsF rfl ?_ | refine Ix.strs rfl ?_ ?_ | refine Cut.strs rfl ?_ ?_ | refine Ix.mapF (fun _ => rfl) ?_ | refine Ix.map (fun _ => rfl) ?_ ?_ | refine Cut.map (fun _ => rfl) ?_ ?_ | refine Fork.yes (by assumption) ?_ | refine Fork.no (by assumption) ?_ | refine Fork.decYes (by omega) ?_ | refine Fork.decNo (by omega) ?_ | refine Fork.dec (fun _ => ?_) (fun _ => ?_) | refine Fork.bne (fun _ => ?_) (fun _ => ?_) | refine Fork.beq (fun _ => ?_) (fun _ => ?_) | refine Fork.seq (fun _ => ?_) (fun _ => ?_) | refine Fork.sne (fun _ => ?_) (fun _ => ?_) | refine Fork.neg (fun _ => ?_) (fun _ => ?_) | refine Fork.mk (fun _ => ?_) (fun _ => ?_) | refine HAlt.mk ?_ ?_ | apply HJoin.mk3 | exact HEnd.mk rfl rfl rfl | refine HEnd.mk ?_ ?_ ?_ | refine Round.mk ?_ | refine NilQ.mk (fun b hb => ?_) | refine forceK_of ?_ | refine forceBx_of ?_ | refine unG_old ?_ | refine unG_gv ?_ | refine Lit.read rfl ?_ | refine FinVal.keep ?_ | refine FinAgg.keep ?_ | refine Final.mk rfl rfl | refine Final.mk ?_ rfl | refine Final.mk ?_ ?_ | refine FinalT.mk ?_ ?_ | refine FinalC.allA ?_)
    | refine AV.bool_congr ?_ | refine AV.int_congr ?_ | refine AV.str_congr ?_ | refine AV.list_congr ?_ | with_reducible rfl | refine fr1 ?_ | refine fr2 ?_ ?_
  refine ALoop.mk Nat (fun i => ⟨[(0, .list none (strs l)), (1, .val (.int .i64 (a - l.length - szL (l.take i)))), (5, .val (.int .i64 i))], [], []⟩) (fun i => i ≤ l.length ∧ (0 : Int) ≤ a - l.length - szL (l.take i)) (fun i => l.length - i) ⟨0, ⟨Nat.zero_le _, by simp [szL]; omega⟩, ?_⟩ (fun i hi => ?_)
  · repeat' first
      | exact trivial | refine Weak.mk ?_ ?_ ?_ ?_ (Or.inl (Nat.le_of_ble_eq_true rfl)) | refine Weak.mk ?_ ?_ ?_ ?_ (Or.inr ⟨(by repeat' first | exact trivial | exact Nat.le_of_ble_eq_true rfl | refine And.intro ?_ ?_), (by repeat' first | exact trivial | exact Nat.le_of_ble_eq_true rfl | refine And.intro ?_ ?_)⟩) | refine Weak.mk ?_ ?_ ?_ ?_ ?_ | refine And.intro ?_ ?_ | with_reducible rfl | exact Nat.le_of_ble_eq_true rfl | refine fr1 ?_ | refine fr2 ?_ ?_ | refine AV.int_congr ?_ | refine AV.bool_congr ?_ | refine AV.str_congr ?_ | refine AV.list_congr ?_ | refine AV.bsl_congr ?_ ?_ | (apply rfl)
    rw [hw]; simp [szL]
  obtain ⟨hp1, hp2⟩ := hi
  have hg : ∀ i, (l.getD i []).length ≤ 9223372036854775807 := fun i => by
    rcases Nat.lt_or_ge i l.length with h | h
    · simp only [List.getD, List.getElem?_eq_getElem h, Option.getD_some]; exact hs _ (List.getElem_mem h)
    · simp [List.getD, List.getElem?_eq_none h]
  repeat' first
    | contradiction | exact trivial
    | (conv => whnf
       first | refine Need.mk (fun h => h) ?_ | refine Need.mk rfl ?_ | refine Need.mk ⟨rfl, Nat.le_of_ble_eq_true rfl⟩ ?_ | refine Need.mk (Nat.le_of_ble_eq_true rfl) ?_ | refine Need.fin ?_ | refine Need.mk ?_ ?_ | refine Ix.strsF rfl ?_ | refine Ix.strs rfl ?_ ?_ | refine Cut.strs rfl ?_ ?_ | refine Ix.mapF (fun _ => rfl) ?_ | refine Ix.map (fun _ => rfl) ?_ ?_ | refine Cut.map (fun _ => rfl) ?_ ?_ | refine Fork.yes (by assumption) ?_ | refine Fork.no (by assumption) ?_ | refine Fork.decYes (by omega) ?_ | refine Fork.decNo (by omega) ?_ | refine Fork.dec (fun _ => ?_) (fun _ => ?_) | refine Fork.bne (fun _ => ?_) (fun _ => ?_) | refine Fork.beq (fun _ => ?_) (fun _ => ?_) | refine Fork.seq (fun _ => ?_) (fun _ => ?_) | refine Fork.sne (fun _ => ?_) (fun _ => ?_) | refine Fork.neg (fun _ => ?_) (fun _ => ?_) | refine Fork.mk (fun _ => ?_) (fun _ => ?_) | refine HAlt.mk ?_ ?_ | apply HJoin.mk3 | exact HEnd.mk rfl rfl rfl | refine HEnd.mk ?_ ?_ ?_ | refine Round.mk ?_ | refine NilQ.mk (fun b hb => ?_) | refine forceK_of ?_ | refine forceBx_of ?_ | refine unG_old ?_ | refine unG_gv ?_ | refine Lit.read rfl ?_ | refine FinVal.keep ?_ | refine FinAgg.keep ?_ | refine Final.mk rfl rfl | refine Final.mk ?_ rfl | refine Final.mk ?_ ?_ | refine FinalT.mk ?_ ?_ | refine FinalC.allA ?_)
    | refine AV.bool_congr ?_ | refine AV.int_congr ?_ | refine AV.str_congr ?_ | refine AV.list_congr ?_ | with_reducible rfl | refine fr1 ?_ | refine fr2 ?_ ?_
  · rename_i h1 h2
    rw [length_strs] at h1
    have h4 := hg i
    have h3 := szL_take_succ (l := l) (i := i) (by omega)
    have h5 := szL_le_take l (i + 1)
    change IntKind.i64.wrap (a - ↑l.length - ↑(szL (l.take i)) - ((l.getD i []).length : Int)) < 0 at h2
    rw [wrap64 (by omega) (by omega)] at h2
    rw [left, if_pos (by unfold szT; omega)]
  · rename_i h1 h2
    rw [length_strs] at h1
    have h4 := hg i
    have h3 := szL_take_succ (l := l) (i := i) (by omega)
    change ¬ IntKind.i64.wrap (a - ↑l.length - ↑(szL (l.take i)) - ((l.getD i []).length : Int)) < 0 at h2
    rw [wrap64 (by omega) (by omega)] at h2
    refine ⟨i + 1, ⟨by omega, by omega⟩, ?_, by omega⟩
    repeat' first
      | exact trivial | refine Weak.mk ?_ ?_ ?_ ?_ (Or.inl (Nat.le_of_ble_eq_true rfl)) | refine Weak.mk ?_ ?_ ?_ ?_ (Or.inr ⟨(by repeat' first | exact trivial | exact Nat.le_of_ble_eq_true rfl | refine And.intro ?_ ?_), (by repeat' first | exact trivial | exact Nat.le_of_ble_eq_true rfl | refine And.intro ?_ ?_)⟩) | refine Weak.mk ?_ ?_ ?_ ?_ ?_ | refine And.intro ?_ ?_ | with_reducible rfl | exact Nat.le_of_ble_eq_true rfl | refine fr1 ?_ | refine fr2 ?_ ?_ | refine AV.int_congr ?_ | refine AV.bool_congr ?_ | refine AV.str_congr ?_ | refine AV.list_congr ?_ | refine AV.bsl_congr ?_ ?_ | (apply rfl)
    · change IntKind.i64.wrap (a - ↑l.length - ↑(szL (l.take i)) - ((l.getD i []).length : Int)) = _
      rw [wrap64 (by omega) (by omega)]; omega
    · rw [wrap64 (by omega) (by omega)]; rfl
  · rename_i h1
    rw [length_strs] at h1
    rw [List.take_of_length_le (by omega)] at hp2 ⊢
    rw [left, if_neg (by unfold szT; omega)]; unfold szT; omega
end Go.Proofs.Ytlmlfkjdgnpmjaa
namespace Go.Proofs.Ytlmlfkjdgnpmjaa
open Abs
def digs : Nat → Nat → Str → Str
  | 0, _, a => a
  | n + 1, k, a => if k = 0 then a else digs n (k / 10) (UInt8.ofNat (48 + k % 10) :: a)
theorem digs_fuel : ∀ (n m k : Nat) (a : Str), k ≤ n → k ≤ m → digs n k a = digs m k a
  | 0, 0, _, _, _, _ => rfl
  | 0, m + 1, k, a, h, _ => by have : k = 0 := by omega
                               subst this; rfl
  | n + 1, 0, k, a, _, h => by have : k = 0 := by omega
                               subst this; rfl
  | n + 1, m + 1, k, a, h, h' => by
    simp only [digs]
    split
    · rfl
    · exact digs_fuel n m _ _ (by omega) (by omega)
theorem digs_step {k : Nat} (a : Str) (h : 0 < k) : digs k k a = digs (k / 10) (k / 10) (UInt8.ofNat (48 + k % 10) :: a) := by
  obtain ⟨n, rfl⟩ : ∃ n, k = n + 1 := ⟨k - 1, by omega⟩
  rw [digs, if_neg (by omega)]
  exact digs_fuel _ _ _ _ (by omega) (by omega)
@[irreducible] def markF (k : Nat) : Str := if k = 0 then [109, 48] else 109 :: digs k k []
theorem markText.ret (k : Nat) (hk : k ≤ 1099511627775) : markText.Ret [.val (.int .i64 k)] (.str (markF k)) [] := by
  refine markText.ofS rfl rfl ?_
  repeat' first
    | contradiction | exact trivial
    | (conv => whnf
       first | refine Need.mk (fun h => h) ?_ | refine Need.mk rfl ?_ | refine Need.mk ⟨rfl, Nat.le_of_ble_eq_true rfl⟩ ?_ | refine Need.mk (Nat.le_of_ble_eq_true rfl) ?_ | refine Need.fin ?_ | refine Need.mk ?_ ?_ | refine Ix.strsF rfl ?_ | refine Ix.strs rfl ?_ ?_ | refine Cut.strs rfl ?_ ?_ | refine Ix.mapF (fun _ => rfl) ?_ | refine Ix.map (fun _ => rfl) ?_ ?_ | refine Cut.map (fun _ => rfl) ?_ ?_ | refine Fork.yes (by assumption) ?_ | refine Fork.no (by assumption) ?_ | refine Fork.decYes (by omega) ?_ | refine Fork.decNo (by omega) ?_ | refine Fork.dec (fun _ => ?_) (fun _ => ?_) | refine Fork.bne (fun _ => ?_) (fun _ => ?_) | refine Fork.beq (fun _ => ?_) (fun _ => ?_) | refine Fork.seq (fun _ => ?_) (fun _ => ?_) | refine Fork.sne (fun _ => ?_) (fun _ => ?_) | refine Fork.neg (fun _ => ?_) (fun _ => ?_) | refine Fork.mk (fun _ => ?_) (fun _ => ?_) | refine HAlt.mk ?_ ?_ | apply HJoin.mk3 | exact HEnd.mk rfl rfl rfl | refine HEnd.mk ?_ ?_ ?_ | refine Round.mk ?_ | refine NilQ.mk (fun b hb => ?_) | refine forceK_of ?_ | refine forceBx_of ?_ | refine unG_old ?_ | refine unG_gv ?_ | refine Lit.read rfl ?_ | refine FinVal.keep ?_ | refine FinAgg.keep ?_ | refine Final.mk rfl rfl | refine Final.mk ?_ rfl | refine Final.mk ?_ ?_ | refine FinalT.mk ?_ ?_ | refine FinalC.allA ?_)
    | refine AV.bool_congr ?_ | refine AV.int_congr ?_ | refine AV.str_congr ?_ | refine AV.list_congr ?_ | with_reducible rfl | refine fr1 ?_ | refine fr2 ?_ ?_
  · rename_i h
    have : k = 0 := by omega
    subst this; unfold markF; rfl
  rename_i h
  repeat' first
    | contradiction | exact trivial
    | (conv => whnf
       first | refine Need.mk (fun h => h) ?_ | refine Need.mk rfl ?_ | refine Need.mk ⟨rfl, Nat.le_of_ble_eq_true rfl⟩ ?_ | refine Need.mk (Nat.le_of_ble_eq_true rfl) ?_ | refine Need.fin ?_ | refine Need.mk ?_ ?_ | refine Ix.strsF rfl ?_ | refine Ix.strs rfl ?_ ?_ | refine Cut.strs rfl ?_ ?_ | refine Ix.mapF (fun _ => rfl) ?_ | refine Ix.map (fun _ => rfl) ?_ ?_ | refine Cut.map (fun _ => rfl) ?_ ?_ | refine Fork.yes (by assumption) ?_ | refine Fork.no (by assumption) ?_ | refine Fork.decYes (by omega) ?_ | refine Fork.decNo (by omega) ?_ | refine Fork.dec (fun _ => ?_) (fun _ => ?_) | refine Fork.bne (fun _ => ?_) (fun _ => ?_) | refine Fork.beq (fun _ => ?_) (fun _ => ?_) | refine Fork.seq (fun _ => ?_) (fun _ => ?_) | refine Fork.sne (fun _ => ?_) (fun _ => ?_) | refine Fork.neg (fun _ => ?_) (fun _ => ?_) | refine Fork.mk (fun _ => ?_) (fun _ => ?_) | refine HAlt.mk ?_ ?_ | apply HJoin.mk3 | exact HEnd.mk rfl rfl rfl | refine HEnd.mk ?_ ?_ ?_ | refine Round.mk ?_ | refine NilQ.mk (fun b hb => ?_) | refine forceK_of ?_ | refine forceBx_of ?_ | refine unG_old ?_ | refine unG_gv ?_ | refine Lit.read rfl ?_ | refine FinVal.keep ?_ | refine FinAgg.keep ?_ | refine Final.mk rfl rfl | refine Final.mk ?_ rfl | refine Final.mk ?_ ?_ | refine FinalT.mk ?_ ?_ | refine FinalC.allA ?_)
    | refine AV.bool_congr ?_ | refine AV.int_congr ?_ | refine AV.str_congr ?_ | refine AV.list_congr ?_ | with_reducible rfl | refine fr1 ?_ | refine fr2 ?_ ?_
  refine ALoop.mk (Nat × Str × Fr) (fun p => ⟨[(0, .val (.int .i64 p.1)), (3, .str p.2.1)], [], p.2.2⟩) (fun p => digs p.1 p.1 p.2.1 = digs k k [] ∧ p.2.1.length + p.1 ≤ k) (fun p => p.1) ⟨(k, [], []), ⟨rfl, by simp⟩, ?_⟩ (fun p hp => ?_)
  · repeat' first
      | exact trivial | refine Weak.mk ?_ ?_ ?_ ?_ (Or.inl (Nat.le_of_ble_eq_true rfl)) | refine Weak.mk ?_ ?_ ?_ ?_ (Or.inr ⟨(by repeat' first | exact trivial | exact Nat.le_of_ble_eq_true rfl | refine And.intro ?_ ?_), (by repeat' first | exact trivial | exact Nat.le_of_ble_eq_true rfl | refine And.intro ?_ ?_)⟩) | refine Weak.mk ?_ ?_ ?_ ?_ ?_ | refine And.intro ?_ ?_ | with_reducible rfl | exact Nat.le_of_ble_eq_true rfl | refine fr1 ?_ | refine fr2 ?_ ?_ | refine AV.int_congr ?_ | refine AV.bool_congr ?_ | refine AV.str_congr ?_ | refine AV.list_congr ?_ | refine AV.bsl_congr ?_ ?_ | (apply rfl)
  obtain ⟨hp1, hp2⟩ := hp
  repeat' first
    | contradiction | exact trivial
    | (conv => whnf
       first | refine Need.mk (fun h => h) ?_ | refine Need.mk rfl ?_ | refine Need.mk ⟨rfl, Nat.le_of_ble_eq_true rfl⟩ ?_ | refine Need.mk (Nat.le_of_ble_eq_true rfl) ?_ | refine Need.fin ?_ | refine Need.mk ?_ ?_ | refine Ix.strsF rfl ?_ | refine Ix.strs rfl ?_ ?_ | refine Cut.strs rfl ?_ ?_ | refine Ix.mapF (fun _ => rfl) ?_ | refine Ix.map (fun _ => rfl) ?_ ?_ | refine Cut.map (fun _ => rfl) ?_ ?_ | refine Fork.yes (by assumption) ?_ | refine Fork.no (by assumption) ?_ | refine Fork.decYes (by omega) ?_ | refine Fork.decNo (by omega) ?_ | refine Fork.dec (fun _ => ?_) (fun _ => ?_) | refine Fork.bne (fun _ => ?_) (fun _ => ?_) | refine Fork.beq (fun _ => ?_) (fun _ => ?_) | refine Fork.seq (fun _ => ?_) (fun _ => ?_) | refine Fork.sne (fun _ => ?_) (fun _ => ?_) | refine Fork.neg (fun _ => ?_) (fun _ => ?_) | refine Fork.mk (fun _ => ?_) (fun _ => ?_) | refine HAlt.mk ?_ ?_ | apply HJoin.mk3 | exact HEnd.mk rfl rfl rfl | refine HEnd.mk ?_ ?_ ?_ | refine Round.mk ?_ | refine NilQ.mk (fun b hb => ?_) | refine forceK_of ?_ | refine forceBx_of ?_ | refine unG_old ?_ | refine unG_gv ?_ | refine Lit.read rfl ?_ | refine FinVal.keep ?_ | refine FinAgg.keep ?_ | refine Final.mk rfl rfl | refine Final.mk ?_ rfl | refine Final.mk ?_ ?_ | refine FinalT.mk ?_ ?_ | refine FinalC.allA ?_)
    | refine AV.bool_congr ?_ | refine AV.int_congr ?_ | refine AV.str_congr ?_ | refine AV.list_congr ?_ | with_reducible rfl | refine fr1 ?_ | refine fr2 ?_ ?_
  · refine ⟨[UInt8.ofNat (48 + p.1 % 10)], ?_, ?_⟩
    · rename_i h1
      have e1 : ((p.1 : Int).tmod 10) = ((p.1 % 10 : Nat) : Int) := (Int.ofNat_tmod p.1 10).symm
      have e2 : IntKind.i64.wrap (48 + (p.1 : Int).tmod 10) = ((48 + p.1 % 10 : Nat) : Int) := by rw [e1, wrap64 (by omega) (by omega)]; omega
      have e3 : IntKind.u8.wrap (((48 + p.1 % 10 : Nat)) : Int) = ((48 + p.1 % 10 : Nat) : Int) := by
        have := Go.IntWalk.u8_in ((48 + p.1 % 10 : Nat) : Int) ⟨by omega, by omega⟩
        exact this
      rw [e2, e3]
      simp [byteCell]
      omega
    repeat' first
      | contradiction | exact trivial
      | (conv => whnf
         first | refine Need.mk (fun h => h) ?_ | refine Need.mk rfl ?_ | refine Need.mk ⟨rfl, Nat.le_of_ble_eq_true rfl⟩ ?_ | refine Need.mk (Nat.le_of_ble_eq_true rfl) ?_ | refine Need.fin ?_ | refine Need.mk ?_ ?_ | refine Ix.strsF rfl ?_ | refine Ix.strs rfl ?_ ?_ | refine Cut.strs rfl ?_ ?_ | refine Ix.mapF (fun _ => rfl) ?_ | refine Ix.map (fun _ => rfl) ?_ ?_ | refine Cut.map (fun _ => rfl) ?_ ?_ | refine Fork.yes (by assumption) ?_ | refine Fork.no (by assumption) ?_ | refine Fork.decYes (by omega) ?_ | refine Fork.decNo (by omega) ?_ | refine Fork.dec (fun _ => ?_) (fun _ => ?_) | refine Fork.bne (fun _ => ?_) (fun _ => ?_) | refine Fork.beq (fun _ => ?_) (fun _ => ?_) | refine Fork.seq (fun _ => ?_) (fun _ => ?_) | refine Fork.sne (fun _ => ?_) (fun _ => ?_) | refine Fork.neg (fun _ => ?_) (fun _ => ?_) | refine Fork.mk (fun _ => ?_) (fun _ => ?_) | refine HAlt.mk ?_ ?_ | apply HJoin.mk3 | exact HEnd.mk rfl rfl rfl | refine HEnd.mk ?_ ?_ ?_ | refine Round.mk ?_ | refine NilQ.mk (fun b hb => ?_) | refine forceK_of ?_ | refine forceBx_of ?_ | refine unG_old ?_ | refine unG_gv ?_ | refine Lit.read rfl ?_ | refine FinVal.keep ?_ | refine FinAgg.keep ?_ | refine Final.mk rfl rfl | refine Final.mk ?_ rfl | refine Final.mk ?_ ?_ | refine FinalT.mk ?_ ?_ | refine FinalC.allA ?_)
      | refine AV.bool_congr ?_ | refine AV.int_congr ?_ | refine AV.str_congr ?_ | refine AV.list_congr ?_ | with_reducible rfl | refine fr1 ?_ | refine fr2 ?_ ?_
    · rename_i h1
      simp; omega
    · rename_i h1
      refine ⟨(p.1 / 10, UInt8.ofNat (48 + p.1 % 10) :: p.2.1, p.2.2 ++ [(5, 1, 1)]), ⟨by rw [← digs_step _ (by omega)]; exact hp1, by simp only [List.length_cons]; omega⟩, ?_, by show p.1 / 10 < p.1; omega⟩
      repeat' first
        | exact trivial | refine Weak.mk ?_ ?_ ?_ ?_ (Or.inl (Nat.le_of_ble_eq_true rfl)) | refine Weak.mk ?_ ?_ ?_ ?_ (Or.inr ⟨(by repeat' first | exact trivial | exact Nat.le_of_ble_eq_true rfl | refine And.intro ?_ ?_), (by repeat' first | exact trivial | exact Nat.le_of_ble_eq_true rfl | refine And.intro ?_ ?_)⟩) | refine Weak.mk ?_ ?_ ?_ ?_ ?_ | refine And.intro ?_ ?_ | with_reducible rfl | exact Nat.le_of_ble_eq_true rfl | refine fr1 ?_ | refine fr2 ?_ ?_ | refine AV.int_congr ?_ | refine AV.bool_congr ?_ | refine AV.str_congr ?_ | refine AV.list_congr ?_ | refine AV.bsl_congr ?_ ?_ | (apply rfl)
      have e4 : ((p.1 : Int).tdiv 10) = ((p.1 / 10 : Nat) : Int) := (Int.ofNat_tdiv p.1 10).symm
      rw [e4, wrap64 (by omega) (by omega)]
  · rename_i h1
    have : p.1 = 0 := by omega
    rw [this] at hp1
    show 1 + p.2.1.length ≤ 1099511627776
    omega
  · rename_i h1
    have : p.1 = 0 := by omega
    rw [this] at hp1
    have e : p.2.1 = digs k k [] := hp1
    unfold markF; rw [if_neg (by omega), ← e]; rfl
def markL (n k : Nat) : List Str := (List.range n).map fun i => markF (k + i)
@[simp] theorem length_markL (n k : Nat) : (markL n k).length = n := by simp [markL]
theorem markL_get {n k i : Nat} (hi : i < n) : (markL n k)[i]? = some (markF (k + i)) := by simp [markL, hi]
theorem gvLL_sq : ∀ (l : List Str) (n : Nat), gvLL (l.map sq) n = l.map AV.str
  | [], _ => rfl
  | s :: l, n => by simp [gvLL, sq, gvL, gv, gvLL_sq l]
theorem gbLL_sq : ∀ (l : List Str) (n : Nat), gbLL (l.map sq) n = []
  | [], _ => rfl
  | s :: l, n => by simp [gbLL, sq, gbL, gb, gbLL_sq l]
theorem nbLL_sq : ∀ (l : List Str), nbLL (l.map sq) = 0
  | [] => rfl
  | s :: l => by simp [nbLL, sq, nbL, nb, nbLL_sq l]
def strT (l : List Str) : Tr := .l 9 1 (l.map sq)
theorem gb_strT (l : List Str) (n : Nat) : gb (strT l) n = [.cells (.row 9 1) (l.map AV.str)] := by rw [strT, gb, gvLL_sq, gbLL_sq]
theorem gv_strT (l : List Str) (n : Nat) : gv (strT l) n = .bsl n l.length := by rw [strT, gv, List.length_map]
theorem nb_strT (l : List Str) : nb (strT l) = 1 := by rw [strT, nb, nbLL_sq]
theorem mix_set {l m : List Str} {i : Nat} {x : Str} (hi : i < l.length) (hl : m.length = l.length) (hx : m[i]? = some x) :
    ((m.take i ++ l.drop i).map AV.str).set i (.str x) = (m.take (i + 1) ++ l.drop (i + 1)).map AV.str := by
  have h1 : l.drop i = l[i] :: l.drop (i + 1) := List.drop_eq_getElem_cons hi
  have h2 : m.take (i + 1) = m.take i ++ [x] := by rw [List.take_add_one, hx]; rfl
  have h3 : (m.take i).length = i := by simp; omega
  rw [h1, h2, List.map_append, List.set_append_right _ _ (by rw [List.length_map, h3]; exact Nat.le_refl _), List.length_map, h3, Nat.sub_self, List.map_cons, List.set_cons_zero, List.map_append, List.map_append, List.append_assoc]
  rfl
theorem markStringS.turn (l : List Str) (k : Nat) (hk : k + l.length ≤ 1099511627775) : markStringS.Turn (gb (strT l) 0) [gv (strT l) 0, .val (.int .i64 k)] (.val (.int .i64 ((k + l.length : Nat)))) (gb (strT (markL l.length k)) 0) := by
  refine markStringS.ofT rfl rfl (by rw [length_gb, nb_strT, nb_strT]) ?_
  rw [gb_strT, gb_strT, gv_strT]
  repeat' first
    | contradiction | exact trivial
    | (conv => whnf
       first | refine Need.mk (fun h => h) ?_ | refine Need.mk rfl ?_ | refine Need.mk ⟨rfl, Nat.le_of_ble_eq_true rfl⟩ ?_ | refine Need.mk (Nat.le_of_ble_eq_true rfl) ?_ | refine Need.fin ?_ | refine Need.mk ?_ ?_ | refine Ix.strsF rfl ?_ | refine Ix.strs rfl ?_ ?_ | refine Cut.strs rfl ?_ ?_ | refine Ix.mapF (fun _ => rfl) ?_ | refine Ix.map (fun _ => rfl) ?_ ?_ | refine Cut.map (fun _ => rfl) ?_ ?_ | refine Fork.yes (by assumption) ?_ | refine Fork.no (by assumption) ?_ | refine Fork.decYes (by omega) ?_ | refine Fork.decNo (by omega) ?_ | refine Fork.dec (fun _ => ?_) (fun _ => ?_) | refine Fork.bne (fun _ => ?_) (fun _ => ?_) | refine Fork.beq (fun _ => ?_) (fun _ => ?_) | refine Fork.seq (fun _ => ?_) (fun _ => ?_) | refine Fork.sne (fun _ => ?_) (fun _ => ?_) | refine Fork.neg (fun _ => ?_) (fun _ => ?_) | refine Fork.mk (fun _ => ?_) (fun _ => ?_) | refine HAlt.mk ?_ ?_ | apply HJoin.mk3 | exact HEnd.mk rfl rfl rfl | refine HEnd.mk ?_ ?_ ?_ | refine Round.mk ?_ | refine NilQ.mk (fun b hb => ?_) | refine forceK_of ?_ | refine forceBx_of ?_ | refine unG_old ?_ | refine unG_gv ?_ | refine Lit.read rfl ?_ | refine FinVal.keep ?_ | refine FinAgg.keep ?_ | refine Final.mk rfl rfl | refine Final.mk ?_ rfl | refine Final.mk ?_ ?_ | refine FinalT.mk ?_ ?_ | refine FinalC.allA ?_)
    | refine AV.bool_congr ?_ | refine AV.int_congr ?_ | refine AV.str_congr ?_ | refine AV.list_congr ?_ | with_reducible rfl | refine fr1 ?_ | refine fr2 ?_ ?_
  refine ALoop.mk Nat (fun i => ⟨[(0, .bsl 0 l.length), (1, .val (.int .i64 (k + i : Nat))), (5, .val (.int .i64 i))], [.cells (.row 9 1) (((markL l.length k).take i ++ l.drop i).map AV.str)], []⟩) (fun i => i ≤ l.length) (fun i => l.length - i) ⟨0, Nat.zero_le _, ?_⟩ (fun i hi => ?_)
  · repeat' first
      | exact trivial | refine Weak.mk ?_ ?_ ?_ ?_ (Or.inl (Nat.le_of_ble_eq_true rfl)) | refine Weak.mk ?_ ?_ ?_ ?_ (Or.inr ⟨(by repeat' first | exact trivial | exact Nat.le_of_ble_eq_true rfl | refine And.intro ?_ ?_), (by repeat' first | exact trivial | exact Nat.le_of_ble_eq_true rfl | refine And.intro ?_ ?_)⟩) | refine Weak.mk ?_ ?_ ?_ ?_ ?_ | refine And.intro ?_ ?_ | with_reducible rfl | exact Nat.le_of_ble_eq_true rfl | refine fr1 ?_ | refine fr2 ?_ ?_ | refine AV.int_congr ?_ | refine AV.bool_congr ?_ | refine AV.str_congr ?_ | refine AV.list_congr ?_ | refine AV.bsl_congr ?_ ?_ | (apply rfl)
  repeat' first
    | contradiction | exact trivial
    | (conv => whnf
       first | refine Need.mk (fun h => h) ?_ | refine Need.mk rfl ?_ | refine Need.mk ⟨rfl, Nat.le_of_ble_eq_true rfl⟩ ?_ | refine Need.mk (Nat.le_of_ble_eq_true rfl) ?_ | refine Need.fin ?_ | refine Need.mk ?_ ?_ | refine Ix.strsF rfl ?_ | refine Ix.strs rfl ?_ ?_ | refine Cut.strs rfl ?_ ?_ | refine Ix.mapF (fun _ => rfl) ?_ | refine Ix.map (fun _ => rfl) ?_ ?_ | refine Cut.map (fun _ => rfl) ?_ ?_ | refine Fork.yes (by assumption) ?_ | refine Fork.no (by assumption) ?_ | refine Fork.decYes (by omega) ?_ | refine Fork.decNo (by omega) ?_ | refine Fork.dec (fun _ => ?_) (fun _ => ?_) | refine Fork.bne (fun _ => ?_) (fun _ => ?_) | refine Fork.beq (fun _ => ?_) (fun _ => ?_) | refine Fork.seq (fun _ => ?_) (fun _ => ?_) | refine Fork.sne (fun _ => ?_) (fun _ => ?_) | refine Fork.neg (fun _ => ?_) (fun _ => ?_) | refine Fork.mk (fun _ => ?_) (fun _ => ?_) | refine HAlt.mk ?_ ?_ | apply HJoin.mk3 | exact HEnd.mk rfl rfl rfl | refine HEnd.mk ?_ ?_ ?_ | refine Round.mk ?_ | refine NilQ.mk (fun b hb => ?_) | refine forceK_of ?_ | refine forceBx_of ?_ | refine unG_old ?_ | refine unG_gv ?_ | refine Lit.read rfl ?_ | refine FinVal.keep ?_ | refine FinAgg.keep ?_ | refine Final.mk rfl rfl | refine Final.mk ?_ rfl | refine Final.mk ?_ ?_ | refine FinalT.mk ?_ ?_ | refine FinalC.allA ?_ | refine ACall.scalA _ _ (markText.ret _ ?_) rfl ?_ | refine AQCall.mkA _ _ (fun hg => markText.ret _ ?_) rfl ?_)
    | refine AV.bool_congr ?_ | refine AV.int_congr ?_ | refine AV.str_congr ?_ | refine AV.list_congr ?_ | with_reducible rfl | refine fr1 ?_ | refine fr2 ?_ ?_
  · omega
  · rename_i h
    simp; omega
  · rename_i h
    refine ⟨i + 1, by omega, ?_, by omega⟩
    repeat' first
      | exact trivial | refine Weak.mk ?_ ?_ ?_ ?_ (Or.inl (Nat.le_of_ble_eq_true rfl)) | refine Weak.mk ?_ ?_ ?_ ?_ (Or.inr ⟨(by repeat' first | exact trivial | exact Nat.le_of_ble_eq_true rfl | refine And.intro ?_ ?_), (by repeat' first | exact trivial | exact Nat.le_of_ble_eq_true rfl | refine And.intro ?_ ?_)⟩) | refine Weak.mk ?_ ?_ ?_ ?_ ?_ | refine And.intro ?_ ?_ | with_reducible rfl | exact Nat.le_of_ble_eq_true rfl | refine fr1 ?_ | refine fr2 ?_ ?_ | refine AV.int_congr ?_ | refine AV.bool_congr ?_ | refine AV.str_congr ?_ | refine AV.list_congr ?_ | refine AV.bsl_congr ?_ ?_ | (apply rfl)
    · rw [wrap64 (by omega) (by omega)]; omega
    · rw [wrap64 (by omega) (by omega)]; rfl
    · have := mix_set (l := l) (m := markL l.length k) (i := i) (by omega) (by simp) (markL_get (by omega))
      simp only [Int.toNat_natCast, Nat.mul_one, setAt, List.set_cons_zero, List.take_succ_cons, List.take_zero, List.length_cons, List.length_nil, this]
  · rename_i h
    omega
  · rename_i h
    have : i = l.length := by omega
    subst this
    simp
    rw [List.take_of_length_le (by simp)]
@[irreducible] def heldL (l : List Str) (k : Nat) : Int := if l = markL l.length k then ((k + l.length : Nat) : Int) else -1
theorem heldStringS.ret (l : List Str) (k : Nat) (hk : k + l.length ≤ 1099511627775) : heldStringS.Ret [.list none (strs l), .val (.int .i64 k)] (.val (.int .i64 (heldL l k))) [] := by
  refine heldStringS.ofS rfl rfl ?_
  repeat' first
    | contradiction | exact trivial
    | (conv => whnf
       first | refine Need.mk (fun h => h) ?_ | refine Need.mk rfl ?_ | refine Need.mk ⟨rfl, Nat.le_of_ble_eq_true rfl⟩ ?_ | refine Need.mk (Nat.le_of_ble_eq_true rfl) ?_ | refine Need.fin ?_ | refine Need.mk ?_ ?_ | refine Ix.strsF rfl ?_ | refine Ix.strs rfl ?_ ?_ | refine Cut.strs rfl ?_ ?_ | refine Ix.mapF (fun _ => rfl) ?_ | refine Ix.map (fun _ => rfl) ?_ ?_ | refine Cut.map (fun _ => rfl) ?_ ?_ | refine Fork.yes (by assumption) ?_ | refine Fork.no (by assumption) ?_ | refine Fork.decYes (by omega) ?_ | refine Fork.decNo (by omega) ?_ | refine Fork.dec (fun _ => ?_) (fun _ => ?_) | refine Fork.bne (fun _ => ?_) (fun _ => ?_) | refine Fork.beq (fun _ => ?_) (fun _ => ?_) | refine Fork.seq (fun _ => ?_) (fun _ => ?_) | refine Fork.sne (fun _ => ?_) (fun _ => ?_) | refine Fork.neg (fun _ => ?_) (fun _ => ?_) | refine Fork.mk (fun _ => ?_) (fun _ => ?_) | refine HAlt.mk ?_ ?_ | apply HJoin.mk3 | exact HEnd.mk rfl rfl rfl | refine HEnd.mk ?_ ?_ ?_ | refine Round.mk ?_ | refine NilQ.mk (fun b hb => ?_) | refine forceK_of ?_ | refine forceBx_of ?_ | refine unG_old ?_ | refine unG_gv ?_ | refine Lit.read rfl ?_ | refine FinVal.keep ?_ | refine FinAgg.keep ?_ | refine Final.mk rfl rfl | refine Final.mk ?_ rfl | refine Final.mk ?_ ?_ | refine FinalT.mk ?_ ?_ | refine FinalC.allA ?_)
    | refine AV.bool_congr ?_ | refine AV.int_congr ?_ | refine AV.str_congr ?_ | refine AV.list_congr ?_ | with_reducible rfl | refine fr1 ?_ | refine fr2 ?_ ?_
  refine ALoop.mk Nat (fun i => ⟨[(0, .list none (strs l)), (1, .val (.int .i64 (k + i : Nat))), (5, .val (.int .i64 i))], [], []⟩) (fun i => i ≤ l.length ∧ l.take i = (markL l.length k).take i) (fun i => l.length - i) ⟨0, ⟨Nat.zero_le _, rfl⟩, ?_⟩ (fun i hi => ?_)
  · repeat' first
      | exact trivial | refine Weak.mk ?_ ?_ ?_ ?_ (Or.inl (Nat.le_of_ble_eq_true rfl)) | refine Weak.mk ?_ ?_ ?_ ?_ (Or.inr ⟨(by repeat' first | exact trivial | exact Nat.le_of_ble_eq_true rfl | refine And.intro ?_ ?_), (by repeat' first | exact trivial | exact Nat.le_of_ble_eq_true rfl | refine And.intro ?_ ?_)⟩) | refine Weak.mk ?_ ?_ ?_ ?_ ?_ | refine And.intro ?_ ?_ | with_reducible rfl | exact Nat.le_of_ble_eq_true rfl | refine fr1 ?_ | refine fr2 ?_ ?_ | refine AV.int_congr ?_ | refine AV.bool_congr ?_ | refine AV.str_congr ?_ | refine AV.list_congr ?_ | refine AV.bsl_congr ?_ ?_ | (apply rfl)
  obtain ⟨hi, ht⟩ := hi
  repeat' first
    | contradiction | exact trivial
    | (conv => whnf
       first | refine Need.mk (fun h => h) ?_ | refine Need.mk rfl ?_ | refine Need.mk ⟨rfl, Nat.le_of_ble_eq_true rfl⟩ ?_ | refine Need.mk (Nat.le_of_ble_eq_true rfl) ?_ | refine Need.fin ?_ | refine Need.mk ?_ ?_ | refine Ix.strsF rfl ?_ | refine Ix.strs rfl ?_ ?_ | refine Cut.strs rfl ?_ ?_ | refine Ix.mapF (fun _ => rfl) ?_ | refine Ix.map (fun _ => rfl) ?_ ?_ | refine Cut.map (fun _ => rfl) ?_ ?_ | refine Fork.yes (by assumption) ?_ | refine Fork.no (by assumption) ?_ | refine Fork.decYes (by omega) ?_ | refine Fork.decNo (by omega) ?_ | refine Fork.dec (fun _ => ?_) (fun _ => ?_) | refine Fork.bne (fun _ => ?_) (fun _ => ?_) | refine Fork.beq (fun _ => ?_) (fun _ => ?_) | refine Fork.seq (fun _ => ?_) (fun _ => ?_) | refine Fork.sne (fun _ => ?_) (fun _ => ?_) | refine Fork.neg (fun _ => ?_) (fun _ => ?_) | refine Fork.mk (fun _ => ?_) (fun _ => ?_) | refine HAlt.mk ?_ ?_ | apply HJoin.mk3 | exact HEnd.mk rfl rfl rfl | refine HEnd.mk ?_ ?_ ?_ | refine Round.mk ?_ | refine NilQ.mk (fun b hb => ?_) | refine forceK_of ?_ | refine forceBx_of ?_ | refine unG_old ?_ | refine unG_gv ?_ | refine Lit.read rfl ?_ | refine FinVal.keep ?_ | refine FinAgg.keep ?_ | refine Final.mk rfl rfl | refine Final.mk ?_ rfl | refine Final.mk ?_ ?_ | refine FinalT.mk ?_ ?_ | refine FinalC.allA ?_ | refine ACall.scalA _ _ (markText.ret _ ?_) rfl ?_ | refine AQCall.mkA _ _ (fun hg => markText.ret _ ?_) rfl ?_)
    | refine AV.bool_congr ?_ | refine AV.int_congr ?_ | refine AV.str_congr ?_ | refine AV.list_congr ?_ | with_reducible rfl | refine fr1 ?_ | refine fr2 ?_ ?_
  · omega
  · rename_i h1 h2
    rw [length_strs] at h1
    have h3 : ¬ l = markL l.length k := fun e => h2 (by
      have := markL_get (n := l.length) (k := k) (i := i) (by omega)
      rw [← e] at this
      show l.getD (i : Int).toNat [] = _
      rw [Int.toNat_natCast, List.getD, this]; rfl)
    unfold heldL; rw [if_neg h3]
  · rename_i h1 h2
    rw [length_strs] at h1
    change l.getD (i : Int).toNat [] = markF (k + i) at h2
    rw [Int.toNat_natCast] at h2
    refine ⟨i + 1, ⟨by omega, ?_⟩, ?_, by omega⟩
    · rw [take_succ' [] (by omega), ht, h2, List.take_add_one, markL_get (by omega)]; rfl
    · repeat' first
        | exact trivial | refine Weak.mk ?_ ?_ ?_ ?_ (Or.inl (Nat.le_of_ble_eq_true rfl)) | refine Weak.mk ?_ ?_ ?_ ?_ (Or.inr ⟨(by repeat' first | exact trivial | exact Nat.le_of_ble_eq_true rfl | refine And.intro ?_ ?_), (by repeat' first | exact trivial | exact Nat.le_of_ble_eq_true rfl | refine And.intro ?_ ?_)⟩) | refine Weak.mk ?_ ?_ ?_ ?_ ?_ | refine And.intro ?_ ?_ | with_reducible rfl | exact Nat.le_of_ble_eq_true rfl | refine fr1 ?_ | refine fr2 ?_ ?_ | refine AV.int_congr ?_ | refine AV.bool_congr ?_ | refine AV.str_congr ?_ | refine AV.list_congr ?_ | refine AV.bsl_congr ?_ ?_ | (apply rfl)
      · rw [wrap64 (by omega) (by omega)]; omega
      · rw [wrap64 (by omega) (by omega)]; rfl
  · rename_i h1
    rw [length_strs] at h1
    have e : l = markL l.length k := by
      have := ht
      rwa [List.take_of_length_le (by omega), List.take_of_length_le (by simp; omega)] at this
    have : i = l.length := by omega
    unfold heldL; rw [if_pos e, this]
end Go.Proofs.Ytlmlfkjdgnpmjaa
namespace Go.Proofs.Ytlmlfkjdgnpmjaa
open Abs
def tStrs : Ty (List Str) := Ty.plain 9 Ty.str (fun _ => rfl) (fun _ => rfl)
abbrev Fct := Str × List Str
def tFct : Ty Fct := Ty.pair Ty.str tStrs
theorem szT_eq (l : List Str) : szT l = tStrs.size l := by
  show szT l = l.length + listSize Ty.str l
  unfold szT
  congr 1
  induction l with
  | nil => rfl
  | cons s l ih => simp only [szL, listSize, ih]; rfl
theorem Abs.ACall.mkStrs {C : Con} {lend : Bool} {f : Nat} {vs : List AV} {b : List ABox} {fr : Fr} {k : AV → List ABox → Fr → Prop} (ys : List AV) (l : List Str) (h : C.ret f ys (.list (some 0) (strs l)) [(9, 1, l.length)]) (hv : SeesL Sees0 vs ys)
    (hk : k (.list (some fr.length) (strs l)) b (fr ++ [(9, 1, l.length)])) : ACall C lend f vs b fr k :=
  ACall.mkV tStrs ys l (fun n => .list (some n) (strs l)) (fun _ => rfl) h hv hk
theorem tFct_size (f : Fct) : tFct.size f = f.1.length + tStrs.size f.2 := rfl
theorem tStrs_size (l : List Str) : tStrs.size l = l.length + listSize Ty.str l := rfl
end Go.Proofs.Ytlmlfkjdgnpmjaa
namespace Go.Proofs.Ytlmlfkjdgnpmjaa
open Abs
end Go.Proofs.Ytlmlfkjdgnpmjaa
namespace Go.Proofs.Ytlmlfkjdgnpmjaa
namespace Abs
mutual
/-- how many cells are marked: of a cell of an element, of its cells, of a slice's elements -/
def c1 : Tr → Nat
  | .v _ => 1
  | .s _ => 1
  | .l _ _ xs => cnLL xs
  | .a _ => 0
  | .p _ => 0
def cnC : List Tr → Nat
  | [] => 0
  | x :: xs => c1 x + cnC xs
def cnLL : List (List Tr) → Nat
  | [] => 0
  | x :: xs => cnC x + cnLL xs
end
mutual
/-- of a value: the cells in its slices -/
def cn : Tr → Nat
  | .l _ _ xs => cnLL xs
  | .a fs => cnA fs
  | .p fs => cnA fs
  | .v _ => 0
  | .s _ => 0
def cnA : List Tr → Nat
  | [] => 0
  | x :: xs => cn x + cnA xs
end
mutual
def m1 : Tr → Nat → Tr
  | .v _, k => .v (.int .i64 k)
  | .s _, k => .s (markF k)
  | .l t sz xs, k => .l t sz (mkLL xs k)
  | .a fs, _ => .a fs
  | .p fs, _ => .p fs
def mkC : List Tr → Nat → List Tr
  | [], _ => []
  | x :: xs, k => m1 x k :: mkC xs (k + c1 x)
def mkLL : List (List Tr) → Nat → List (List Tr)
  | [], _ => []
  | x :: xs, k => mkC x k :: mkLL xs (k + cnC x)
end
mutual
def mk : Tr → Nat → Tr
  | .l t sz xs, k => .l t sz (mkLL xs k)
  | .a fs, k => .a (mkA fs k)
  | .p fs, k => .p (mkA fs k)
  | .v x, _ => .v x
  | .s x, _ => .s x
def mkA : List Tr → Nat → List Tr
  | [], _ => []
  | x :: xs, k => mk x k :: mkA xs (k + cn x)
end
theorem cnC_append : ∀ xs ys, cnC (xs ++ ys) = cnC xs + cnC ys
  | [], ys => by simp [cnC]
  | x :: xs, ys => by rw [List.cons_append, cnC, cnC_append xs, cnC, Nat.add_assoc]
theorem cnLL_flatten : ∀ xs, cnLL xs = cnC xs.flatten
  | [] => rfl
  | x :: xs => by rw [cnLL, List.flatten_cons, cnC_append, cnLL_flatten xs]
theorem mkC_append : ∀ xs ys k, mkC (xs ++ ys) k = mkC xs k ++ mkC ys (k + cnC xs)
  | [], ys, k => by simp [mkC, cnC]
  | x :: xs, ys, k => by rw [List.cons_append, mkC, mkC_append xs, mkC, cnC, List.cons_append, Nat.add_assoc]
theorem mkLL_flatten : ∀ xs k, (mkLL xs k).flatten = mkC xs.flatten k
  | [], _ => rfl
  | x :: xs, k => by rw [mkLL, List.flatten_cons, List.flatten_cons, mkC_append, mkLL_flatten xs]
theorem length_mkC : ∀ xs k, (mkC xs k).length = xs.length
  | [], _ => rfl
  | x :: xs, k => by rw [mkC, List.length_cons, length_mkC xs, List.length_cons]
theorem length_mkLL : ∀ xs k, (mkLL xs k).length = xs.length
  | [], _ => rfl
  | x :: xs, k => by rw [mkLL, List.length_cons, length_mkLL xs, List.length_cons]
mutual
theorem nb_m1 : ∀ x k, nb (m1 x k) = nb x
  | .v _, _ => rfl
  | .s _, _ => rfl
  | .l t sz xs, k => by rw [m1, nb, nb, nbLL_mk xs]
  | .a _, _ => rfl
  | .p _, _ => rfl
theorem nbL_mkC : ∀ xs k, nbL (mkC xs k) = nbL xs
  | [], _ => rfl
  | x :: xs, k => by rw [mkC, nbL, nbL, nbL_mkC xs, nb_m1 x]
theorem nbLL_mk : ∀ xs k, nbLL (mkLL xs k) = nbLL xs
  | [], _ => rfl
  | x :: xs, k => by rw [mkLL, nbLL, nbLL, nbL_mkC x, nbLL_mk xs]
end
mutual
theorem nb_mk : ∀ x k, nb (mk x k) = nb x
  | .l t sz xs, k => by rw [mk, nb, nb, nbLL_mk xs]
  | .a fs, k => by rw [mk, nb, nb, nbL_mkA fs]
  | .p fs, k => by rw [mk, nb, nb, nbL_mkA fs]
  | .v _, _ => rfl
  | .s _, _ => rfl
theorem nbL_mkA : ∀ xs k, nbL (mkA xs k) = nbL xs
  | [], _ => rfl
  | x :: xs, k => by rw [mkA, nbL, nbL, nb_mk x, nbL_mkA xs]
end
mutual
theorem gv_mk : ∀ x k n, gv (mk x k) n = gv x n
  | .l t sz xs, k, n => by rw [mk, gv, gv, length_mkLL]
  | .a fs, k, n => by rw [mk, gv, gv, gvL_mkA fs]
  | .p fs, k, n => by rw [mk, gv, gv, gvL_mkA fs]
  | .v _, _, _ => rfl
  | .s _, _, _ => rfl
theorem gvL_mkA : ∀ xs k n, gvL (mkA xs k) n = gvL xs n
  | [], _, _ => rfl
  | x :: xs, k, n => by rw [mkA, gvL, gvL, gv_mk x, gvL_mkA xs, nb_mk]
end
theorem mkLL_all {sz : Nat} : ∀ (xs : List (List Tr)) (k : Nat), ((mkLL xs k).all fun e => e.length == sz) = xs.all fun e => e.length == sz
  | [], _ => rfl
  | x :: xs, k => by rw [mkLL, List.all_cons, List.all_cons, mkLL_all xs, length_mkC]
mutual
theorem okT_m1 : ∀ x k, okT (m1 x k) = okT x
  | .v _, _ => rfl
  | .s _, _ => rfl
  | .l t sz xs, k => by rw [m1, okT, okT, mkLL_all, okTLL_mk xs]
  | .a _, _ => rfl
  | .p _, _ => rfl
theorem okTL_mkC : ∀ xs k, okTL (mkC xs k) = okTL xs
  | [], _ => rfl
  | x :: xs, k => by rw [mkC, okTL, okTL, okTL_mkC xs, okT_m1 x]
theorem okTLL_mk : ∀ xs k, okTLL (mkLL xs k) = okTLL xs
  | [], _ => rfl
  | x :: xs, k => by rw [mkLL, okTLL, okTLL, okTL_mkC x, okTLL_mk xs]
end
mutual
theorem okT_mk : ∀ x k, okT (mk x k) = okT x
  | .l t sz xs, k => by rw [mk, okT, okT, mkLL_all, okTLL_mk xs]
  | .a fs, k => by rw [mk, okT, okT, okTL_mkA fs]
  | .p fs, k => by rw [mk, okT, okT, okTL_mkA fs]
  | .v _, _ => rfl
  | .s _, _ => rfl
theorem okTL_mkA : ∀ xs k, okTL (mkA xs k) = okTL xs
  | [], _ => rfl
  | x :: xs, k => by rw [mkA, okTL, okTL, okT_mk x, okTL_mkA xs]
end
def st (cs : List Tr) (k p : Nat) : List Tr := mkC (cs.take p) k ++ cs.drop p
theorem st_zero (cs : List Tr) (k : Nat) : st cs k 0 = cs := rfl
theorem st_all (cs : List Tr) (k : Nat) {p : Nat} (h : p = cs.length) : st cs k p = mkC cs k := by subst h; simp [st]
theorem length_st (cs : List Tr) (k p : Nat) : (st cs k p).length = cs.length := by simp [st, length_mkC]; omega
theorem st_at {cs : List Tr} {p : Nat} {x : Tr} (k : Nat) (h : cs[p]? = some x) : st cs k p = mkC (cs.take p) k ++ x :: cs.drop (p + 1) := by
  obtain ⟨hp, rfl⟩ := List.getElem?_eq_some_iff.1 h
  rw [st, List.drop_eq_getElem_cons hp]
theorem st_succ {cs : List Tr} {p : Nat} {x : Tr} (k : Nat) (h : cs[p]? = some x) : st cs k (p + 1) = mkC (cs.take p) k ++ m1 x (k + cnC (cs.take p)) :: cs.drop (p + 1) := by
  rw [st, List.take_add_one, h, mkC_append, List.append_assoc]; rfl
theorem cn_succ {cs : List Tr} {p : Nat} {x : Tr} (h : cs[p]? = some x) : cnC (cs.take (p + 1)) = cnC (cs.take p) + c1 x := by
  rw [List.take_add_one, h, cnC_append]; rfl
theorem cn_take_le (cs : List Tr) (p : Nat) : cnC (cs.take p) ≤ cnC cs := by
  have := cnC_append (cs.take p) (cs.drop p)
  rw [List.take_append_drop] at this; omega
theorem length_take_lt {cs : List Tr} {p : Nat} {x : Tr} (h : cs[p]? = some x) (k : Nat) : (mkC (cs.take p) k).length = p := by
  have := getElem?_lt h
  rw [length_mkC, List.length_take]; omega
/-- a number or a text is marked -/
theorem gvL_st {cs : List Tr} {p : Nat} {x : Tr} (k n : Nat) (h : cs[p]? = some x) :
    gvL (st cs k (p + 1)) n = (gvL (st cs k p) n).set p (gv (m1 x (k + cnC (cs.take p))) (n + nbL (cs.take p))) := by
  have hl : (gvL (mkC (cs.take p) k) n).length = p := by rw [length_gvL, length_take_lt h]
  rw [st_succ k h, st_at k h, gvL_append, gvL_append, List.set_append_right _ _ (by omega), hl, Nat.sub_self]
  rw [gvL, gvL, List.set_cons_zero, nb_m1, nbL_mkC]
theorem gbL_st {cs : List Tr} {p : Nat} {x : Tr} (k n : Nat) (h : cs[p]? = some x) (hx : nb x = 0) : gbL (st cs k (p + 1)) n = gbL (st cs k p) n := by
  have e1 : ∀ m, gb x m = [] := fun m => List.eq_nil_of_length_eq_zero (by rw [length_gb, hx])
  have e2 : ∀ m j, gb (m1 x j) m = [] := fun m j => List.eq_nil_of_length_eq_zero (by rw [length_gb, nb_m1, hx])
  rw [st_succ k h, st_at k h, gbL_append, gbL_append, gbL, gbL, e1, e2, nb_m1]
/-- the cells of element i -/
theorem cell_at {α : Type} [Inhabited α] (q : α → List Tr) (sz : Nat) (hq : ∀ a, (q a).length = sz) {l : List α} {i j : Nat} {x : Tr} (hi : i < l.length) (hx : (q (l.getD i default))[j]? = some x) : (l.map q).flatten[i * sz + j]? = some x := by
  refine flatten_get sz (l.map q) i j (q (l.getD i default)) x (fun e he => ?_) ?_ hx
  · obtain ⟨a, _, rfl⟩ := List.mem_map.1 he; exact hq a
  · simp [List.getD, hi]
theorem flat_len {α : Type} (q : α → List Tr) (sz : Nat) (hq : ∀ a, (q a).length = sz) (l : List α) : (l.map q).flatten.length = l.length * sz := by
  rw [length_flatten' sz _ (fun e he => by obtain ⟨a, _, rfl⟩ := List.mem_map.1 he; exact hq a), List.length_map]
theorem gb_l (t sz : Nat) (xs : List (List Tr)) (n : Nat) : gb (.l t sz xs) n = .cells (.row t sz) (gvL xs.flatten (n + 1)) :: gbL xs.flatten (n + 1) := by rw [gb, gvLL_flatten, gbLL_flatten]
theorem gb_mk_l (t sz : Nat) (xs : List (List Tr)) (k n : Nat) : gb (mk (.l t sz xs) k) n = .cells (.row t sz) (gvL (mkC xs.flatten k) (n + 1)) :: gbL (mkC xs.flatten k) (n + 1) := by rw [mk, gb_l, mkLL_flatten]
theorem cn_l (t sz : Nat) (xs : List (List Tr)) : cn (.l t sz xs) = cnC xs.flatten := by rw [cn, cnLL_flatten]
theorem gb_l0 (t sz : Nat) (xs : List (List Tr)) : gb (.l t sz xs) 0 = .cells (.row t sz) (gvL xs.flatten 1) :: gbL xs.flatten 1 := gb_l t sz xs 0
theorem gb_mk_l0 (t sz : Nat) (xs : List (List Tr)) (k : Nat) : gb (mk (.l t sz xs) k) 0 = .cells (.row t sz) (gvL (mkC xs.flatten k) 1) :: gbL (mkC xs.flatten k) 1 := gb_mk_l t sz xs k 0
theorem nbL_st (cs : List Tr) (k p : Nat) : nbL (st cs k p) = nbL cs := by
  rw [st, nbL_append, nbL_mkC, ← nbL_append, List.take_append_drop]
theorem weak_st {nb : Nat} {e e' : Env} {c c' : ABox} {L L' : List ABox} {f f' : Fr} (he : agrees e e') (hc : c = c') (hL : L = L') (hf : f = f') (hn : nb ≤ (c' :: L').length) : Weak nb ⟨e, c :: L, f⟩ ⟨e', c' :: L', f'⟩ := by
  subst hc; subst hL; subst hf
  exact ⟨he, List.take_length, rfl, hn, Or.inl (Nat.le_refl _)⟩
theorem ld_at {b : List ABox} {j off n : Nat} {rk : RK} {cs : List AV} {k : AV → Prop} (c : AV) (r : List AV) (h : b[j]? = some (.cells rk cs)) (hd : cs.drop off = c :: r) (hk : k c) :
    ptrCells b (.bptr j off) fun cs => takeAV false n cs k := by
  unfold ptrCells; simp only [h, hd]; exact hk
theorem ld_agg {b : List ABox} {j off n : Nat} {rk : RK} {cs : List AV} {k : AV → Prop} (h : b[j]? = some (.cells rk cs)) (hn : n ≤ (cs.drop off).length) (hk : k (.agg ((cs.drop off).take n))) :
    ptrCells b (.bptr j off) fun cs => takeAV true n cs k := by
  unfold ptrCells; simp only [h]; exact Need.mk hn hk
theorem take_all {α : Type} {n : Nat} {l : List α} (h : l.length ≤ n) : l.take n = l := List.take_of_length_le h
theorem cnA_append : ∀ xs ys, cnA (xs ++ ys) = cnA xs + cnA ys
  | [], ys => by simp [cnA]
  | x :: xs, ys => by rw [List.cons_append, cnA, cnA_append xs, cnA, Nat.add_assoc]
theorem mkA_append : ∀ xs ys k, mkA (xs ++ ys) k = mkA xs k ++ mkA ys (k + cnA xs)
  | [], ys, k => by simp [mkA, cnA]
  | x :: xs, ys, k => by rw [List.cons_append, mkA, mkA_append xs, mkA, cnA, List.cons_append, Nat.add_assoc]
def sa (cs : List Tr) (k p : Nat) : List Tr := mkA (cs.take p) k ++ cs.drop p
theorem sa_all (cs : List Tr) (k : Nat) {p : Nat} (h : p = cs.length) : sa cs k p = mkA cs k := by subst h; simp [sa]
theorem nbL_sa (cs : List Tr) (k p : Nat) : nbL (sa cs k p) = nbL cs := by
  rw [sa, nbL_append, nbL_mkA, ← nbL_append, List.take_append_drop]
theorem sa_at {cs : List Tr} {p : Nat} {x : Tr} (k : Nat) (h : cs[p]? = some x) : sa cs k p = mkA (cs.take p) k ++ x :: cs.drop (p + 1) := by
  obtain ⟨hp, rfl⟩ := List.getElem?_eq_some_iff.1 h
  rw [sa, List.drop_eq_getElem_cons hp]
theorem sa_succ {cs : List Tr} {p : Nat} {x : Tr} (k : Nat) (h : cs[p]? = some x) : sa cs k (p + 1) = mkA (cs.take p) k ++ mk x (k + cnA (cs.take p)) :: cs.drop (p + 1) := by
  rw [sa, List.take_add_one, h, mkA_append, List.append_assoc]; rfl
theorem cnA_succ {cs : List Tr} {p : Nat} {x : Tr} (h : cs[p]? = some x) : cnA (cs.take (p + 1)) = cnA (cs.take p) + cn x := by
  rw [List.take_add_one, h, cnA_append]; rfl
theorem cnA_take_le (cs : List Tr) (p : Nat) : cnA (cs.take p) ≤ cnA cs := by
  have := cnA_append (cs.take p) (cs.drop p)
  rw [List.take_append_drop] at this; omega
theorem bx_sa {cs : List Tr} {p : Nat} {x : Tr} (k : Nat) (h : cs[p]? = some x) : gbL (sa cs k p) 0 = gbL (mkA (cs.take p) k) 0 ++ (gb x (gbL (mkA (cs.take p) k) 0).length ++ gbL (cs.drop (p + 1)) (nbL (cs.take p) + nb x)) := by
  rw [sa_at k h, gbL_append, gbL, length_gbL, nbL_mkA, Nat.zero_add]
theorem bx_sa' {cs : List Tr} {p : Nat} {x : Tr} (k : Nat) (h : cs[p]? = some x) : gbL (sa cs k (p + 1)) 0 = gbL (mkA (cs.take p) k) 0 ++ (gb (mk x (k + cnA (cs.take p))) (gbL (mkA (cs.take p) k) 0).length ++ gbL (cs.drop (p + 1)) (nbL (cs.take p) + nb x)) := by
  rw [sa_succ k h, gbL_append, gbL, length_gbL, nbL_mkA, Nat.zero_add, nb_mk]
theorem Sees0.cut {xs : List AV} {ys : List Tr} (h : xs = oldL ys) : Sees0 (.agg xs) (.agg (oldL ys)) := by subst h; exact Sees0.oldagg ys
theorem cons_congr {α : Type} {a b : α} {l m : List α} (h : a = b) (h' : l = m) : a :: l = b :: m := by rw [h, h']
theorem tok_congr {a b : Nat} {l m : List (List AV)} (h : a = b) (h' : l = m) : AV.list (some a) l = AV.list (some b) m := by rw [h, h']
def unA : List Tr → List Tr
  | [] => []
  | .a fs :: r => fs ++ unA r
  | .v x :: r => .v x :: unA r
  | .s x :: r => .s x :: unA r
  | .l t sz xs :: r => .l t sz xs :: unA r
  | .p fs :: r => .p fs :: unA r
theorem gbL_unA : ∀ cs n, gbL (unA cs) n = gbL cs n
  | [], _ => rfl
  | .a fs :: r, n => by rw [unA, gbL_append, gbL_unA r, gbL, gb, nb]
  | .v x :: r, n => by rw [unA, gbL, gbL, gbL_unA r]
  | .s x :: r, n => by rw [unA, gbL, gbL, gbL_unA r]
  | .l t sz xs :: r, n => by rw [unA, gbL, gbL, gbL_unA r]
  | .p fs :: r, n => by rw [unA, gbL, gbL, gbL_unA r]
theorem cnA_unA : ∀ cs, cnA (unA cs) = cnA cs
  | [] => rfl
  | .a fs :: r => by rw [unA, cnA_append, cnA_unA r, cnA, cn]
  | .v x :: r => by rw [unA, cnA, cnA, cnA_unA r]
  | .s x :: r => by rw [unA, cnA, cnA, cnA_unA r]
  | .l t sz xs :: r => by rw [unA, cnA, cnA, cnA_unA r]
  | .p fs :: r => by rw [unA, cnA, cnA, cnA_unA r]
theorem mkA_unA : ∀ cs k, mkA (unA cs) k = unA (mkA cs k)
  | [], _ => rfl
  | .a fs :: r, k => by rw [unA, mkA_append, mkA_unA r, mkA, mk, unA, cn]
  | .v x :: r, k => by rw [unA, mkA, mkA, mkA_unA r, mk, unA]
  | .s x :: r, k => by rw [unA, mkA, mkA, mkA_unA r, mk, unA]
  | .l t sz xs :: r, k => by rw [unA, mkA, mkA, mkA_unA r, mk, unA]
  | .p fs :: r, k => by rw [unA, mkA, mkA, mkA_unA r, mk, unA]
def CnB {α : Type} (T : Ty α) (w : Nat) : Prop := ∀ a, cnC (T.q a) ≤ w * (1 + T.size a)
theorem CnB.str : CnB Ty.str 1 := fun a => by show 1 + 0 ≤ 1 * (1 + _); omega
theorem CnB.int : CnB Ty.int 1 := fun a => by show 1 + 0 ≤ 1 * (1 + _); omega
theorem CnB.bool : CnB Ty.bool 1 := fun a => by show 1 + 0 ≤ 1 * (1 + _); omega
theorem CnB.pair {α β : Type} {T : Ty α} {U : Ty β} {w v : Nat} (h : CnB T w) (g : CnB U v) : CnB (Ty.pair T U) (w + v) := fun a => by
  show cnC (T.q a.1 ++ U.q a.2) ≤ (w + v) * (1 + (T.size a.1 + U.size a.2))
  rw [cnC_append, Nat.add_mul]
  exact Nat.add_le_add (Nat.le_trans (h a.1) (Nat.mul_le_mul_left _ (by omega))) (Nat.le_trans (g a.2) (Nat.mul_le_mul_left _ (by omega)))
theorem CnB.rows {α : Type} {T : Ty α} {w : Nat} (h : CnB T w) : ∀ l : List α, cnLL (l.map T.q) ≤ w * (l.length + listSize T l)
  | [] => Nat.zero_le _
  | a :: l => by
    have h1 := h.rows l
    have h2 := h a
    rw [List.map_cons, cnLL, List.length_cons, listSize]
    refine Nat.le_trans (Nat.add_le_add h2 h1) ?_
    rw [← Nat.mul_add]
    exact Nat.mul_le_mul_left _ (by omega)
theorem CnB.cellsL {α : Type} {T : Ty α} {w : Nat} (h : CnB T w) (t sz : Nat) (l : List α) : cnC [.l t sz (l.map T.q)] ≤ w * (1 + (l.length + listSize T l)) := by
  show cnLL (l.map T.q) + 0 ≤ _
  exact Nat.le_trans (h.rows l) (Nat.mul_le_mul_left _ (by omega))
theorem CnB.list {α : Type} {T : Ty α} {w : Nat} (h : CnB T w) (t : Nat) : CnB (Ty.list t T) w := fun l => h.cellsL t T.sz l
theorem CnB.plain {α : Type} {T : Ty α} {w : Nat} (h : CnB T w) (t : Nat) (h1 h2) : CnB (Ty.plain t T h1 h2) w := fun l => h.cellsL t T.sz l
theorem CnB.l {α : Type} {T : Ty α} {w : Nat} (h : CnB T w) (t sz : Nat) (l : List α) : cn (.l t sz (l.map T.q)) ≤ w * (l.length + listSize T l) := h.rows l
/-- the elements of a slice without slices of their own -/
theorem rowsP_tks {α : Type} (T : Ty α) (h : ∀ a, T.fr a = []) (e : ∀ a, T.tk a 0 = oldL (T.q a)) : ∀ l : List α, tks T l 0 = rows T l
  | [] => rfl
  | a :: l => by
    rw [tks, h, e]
    show _ :: tks T l (0 + 0) = _
    rw [Nat.add_zero, rowsP_tks T h e l]; rfl
end Abs
end Go.Proofs.Ytlmlfkjdgnpmjaa
namespace Go.Proofs.Ytlmlfkjdgnpmjaa
open Abs
theorem Abs.ACall.mk_StringS {C : Con} {lend : Bool} {f : Nat} {vs : List AV} {b : List ABox} {fr : Fr} {k : AV → List ABox → Fr → Prop} (ys : List AV) (l : List Str) (h : C.ret f ys (.list (some 0) (strs l)) [(9, 1, l.length)]) (hv : SeesL Sees0 vs ys)
    (hk : k (.list (some fr.length) (strs l)) b (fr ++ [(9, 1, l.length)])) : ACall C lend f vs b fr k := ACall.mkStrs ys l h hv hk
theorem eqStringS.big (l m : List Str) (h : tStrs.size l ≤ 1099511627775) : eqStringS.Ret [.list none (strs l), .list none (strs m)] (.val (.bool (decide (l = m)))) [] := eqStringS.ret l m (by rw [tStrs_size] at h; omega)
theorem mkLL_sq : ∀ (l : List Str) (k : Nat), mkLL (l.map Ty.str.q) k = (markL l.length k).map sq
  | [], _ => rfl
  | s :: l, k => by
    have e : markL (l.length + 1) k = markF k :: markL l.length (k + 1) := by
      unfold markL
      rw [List.range_succ_eq_map, List.map_cons, List.map_map, Nat.add_zero]
      congr 1
      exact List.map_congr_left fun i _ => by show markF (k + (i + 1)) = markF (k + 1 + i); rw [Nat.add_assoc, Nat.add_comm 1 i]
    rw [List.map_cons, mkLL, List.length_cons, e, List.map_cons]
    exact congrArg _ (mkLL_sq l (k + 1))
theorem cnLL_sq : ∀ (l : List Str), cnLL (l.map Ty.str.q) = l.length
  | [] => rfl
  | s :: l => by rw [List.map_cons, cnLL, cnLL_sq l, List.length_cons]; show 1 + 0 + _ = _; omega
theorem markStringS.tn (l : List Str) (k : Nat) (_hs : tStrs.size l ≤ 1099511627775) (hk : k + cn (.l 9 1 (l.map Ty.str.q)) ≤ 1099511627775) :
    markStringS.Turn (gb (.l 9 1 (l.map Ty.str.q)) 0) [gv (.l 9 1 (l.map Ty.str.q)) 0, .val (.int .i64 k)] (.val (.int .i64 ((k + cn (.l 9 1 (l.map Ty.str.q)) : Nat)))) (gb (mk (.l 9 1 (l.map Ty.str.q)) k) 0) := by
  rw [mk, mkLL_sq]
  rw [cn, cnLL_sq] at hk ⊢
  exact markStringS.turn l k hk
theorem heldStringS.hd (l : List Str) (k : Nat) (_hs : tStrs.size l ≤ 1099511627775) (hk : k + cn (.l 9 1 (l.map Ty.str.q)) ≤ 1099511627775) :
    heldStringS.Ret [old (mk (.l 9 1 (l.map Ty.str.q)) k), .val (.int .i64 k)] (.val (.int .i64 ((k + cn (.l 9 1 (l.map Ty.str.q)) : Nat)))) [] := by
  rw [mk, mkLL_sq]
  rw [cn, cnLL_sq] at hk ⊢
  have h := heldStringS.ret (markL l.length k) k (by rw [length_markL]; exact hk)
  have e : heldL (markL l.length k) k = ((k + l.length : Nat) : Int) := by unfold heldL; rw [length_markL, if_pos rfl]
  rw [e] at h
  exact h
end Go.Proofs.Ytlmlfkjdgnpmjaa
namespace Go.Proofs.Ytlmlfkjdgnpmjaa
namespace Abs
theorem at_here {A : List ABox} {v : ABox} {j : Nat} (h : j = A.length) : (A ++ [v])[j]? = some v := by
  subst h; rw [List.getElem?_append_right (Nat.le_refl _), Nat.sub_self]; rfl
theorem at_more {A D : List ABox} {v : ABox} {j : Nat} (h : A[j]? = some v) : (A ++ D)[j]? = some v := by
  rw [List.getElem?_append_left (getElem?_lt h)]; exact h
theorem BoxIn.here {A bs : List ABox} {n : Nat} (h : n = A.length) : BoxIn (A ++ bs) n bs := by subst h; exact BoxIn.last _ _
/-- the boxes of a tree are turned into another one's -/
def TAt (b : List ABox) (n : Nat) (X Y : Tr) (b' : List ABox) : Prop := ∃ pre post, pre.length = n ∧ b = pre ++ gb X n ++ post ∧ pre ++ gb Y n ++ post = b'
theorem TAt.here {A : List ABox} {n : Nat} {X Y : Tr} (h : n = A.length) : TAt (A ++ gb X n) n X Y (A ++ gb Y n) := ⟨A, [], h.symm, by simp, by simp⟩
theorem TAt.more {A D A' : List ABox} {n : Nat} {X Y : Tr} (h : TAt A n X Y A') : TAt (A ++ D) n X Y (A' ++ D) := by
  obtain ⟨pre, post, h1, rfl, rfl⟩ := h
  exact ⟨pre, post ++ D, h1, by simp, by simp⟩
theorem ACall.turnT {C : Con} {f : Nat} {vs : List AV} {b : List ABox} {fr : Fr} {k : AV → List ABox → Fr → Prop} (n : Nat) (b' : List ABox) (ys : List AV) (x x' : Tr) (r : AV) (h : C.turn f (gb x 0) ys r (gb x' 0)) (hr : isScalR r = true)
    (hn : nb x' = nb x) (hv : SeesL (SeesM x n) vs ys) (ht : TAt b n x x' b') (hk : k r b' fr) : ACall C true f vs b fr k := by
  obtain ⟨pre, post, rfl, h1, h2⟩ := ht
  exact ACall.turn' b' ys x x' r pre post h hr h1 hn hv h2 hk
theorem ACall.unbN {C : Con} {lend : Bool} {f : Nat} {vs : List AV} {b : List ABox} {fr : Fr} {k : AV → List ABox → Fr → Prop} (n : Nat) (ys : List AV) (x : Tr) (h : C.own f ys x) (hv : SeesL (SeesB b) vs ys) (hn : b.length = n)
    (hk : k (gv x n) (b ++ gb x n) fr) : ACall C lend f vs b fr k := by
  subst hn; exact ACall.unb ys x h hv hk
theorem ACall.unbN' {C : Con} {lend : Bool} {f : Nat} {vs : List AV} {b : List ABox} {fr : Fr} {k : AV → List ABox → Fr → Prop} (n : Nat) (b' : List ABox) (ys : List AV) (x : Tr) (h : C.own f ys x) (hv : SeesL (SeesB b) vs ys) (hn : b.length = n)
    (hb : b ++ gb x n = b') (hk : k (gv x n) b' fr) : ACall C lend f vs b fr k := by
  subst hn; subst hb; exact ACall.unb ys x h hv hk
theorem sees_mk (x : Tr) (k : Nat) (b : List ABox) (n : Nat) (hok : okT x = true) (h : BoxIn b n (gb (mk x k) n)) : SeesB b (gv x n) (old (mk x k)) := by
  rw [← gv_mk x k n]
  exact sees_gv (mk x k) b n (by rw [okT_mk]; exact hok) h
theorem ACall.unbP {C : Con} {lend : Bool} {f : Nat} {vs : List AV} {b : List ABox} {fr : Fr} {k : AV → List ABox → Fr → Prop} (n : Nat) (ys : List AV) (x : Tr) (y : Tr) (h : C.own f ys (.p [x, y])) (hv : SeesL (SeesB b) vs ys) (hn : b.length = n)
    (hk : k (.tup [gv x n, gv y (n + nb x)]) (b ++ gb x n) fr) (hy : ∀ m, gb y m = [] := by intro m; rfl) : ACall C lend f vs b fr k := by
  subst hn
  refine ACall.unb ys (.p [x, y]) h hv ?_
  have e : gb (.p [x, y]) b.length = gb x b.length := by
    show gb x b.length ++ (gb y (b.length + nb x) ++ []) = _
    rw [hy, List.append_nil, List.append_nil]
  rw [e]; exact hk
/-- a struct's variable, and what is put into it at once -/
theorem aOps_new {C : Con} {K : Env → List ABox → Fr → Prop} {d a n : Nat} {z : List Value} {rest : List AO} {e : Env} {b : List ABox} {f : Fr} (m : Nat) (cs : List AV) (hl : b.length = m) (ha : look e a = .agg cs) (hd : a ≠ d) (hz : z.length = n) (hc : cs.length = n)
    (hk : aOps C K rest (put e (some d) (.bptr m 0)) (b ++ [.cells .var cs]) f) : aOps C K (⟨some d, none, .alloc z⟩ :: ⟨none, none, .store n (.tmp d) (.tmp a)⟩ :: rest) e b f := by
  subst hl
  have e1 : look (put e (some d) (.bptr b.length 0)) a = .agg cs := by show (if a = d then _ else look e a) = _; rw [if_neg hd, ha]
  have e2 : look (put e (some d) (.bptr b.length 0)) d = .bptr b.length 0 := by show (if d = d then _ else look e d) = _; rw [if_pos rfl]
  have e3 : (b ++ [.cells .var (z.map constAV)])[b.length]? = some (.cells .var (z.map constAV)) := at_here rfl
  have e4 : ∀ cs0 : List AV, cs0.length = cs.length → setAt cs0 0 cs = cs := fun cs0 h => by
    have := Go.Proofs.Ytlmlfkjdgnpmjaa.setAt_mid cs [] cs0 [] h
    simpa using this
  show aOp C (.alloc z) e b f fun v b' f' => aOps C K (⟨none, none, .store n (.tmp d) (.tmp a)⟩ :: rest) (put e (some d) v) b' f'
  show aOps C K (⟨none, none, .store n (.tmp d) (.tmp a)⟩ :: rest) (put e (some d) (.bptr b.length 0)) (b ++ [.cells .var (z.map constAV)]) f
  show aOp C (.store n (.tmp d) (.tmp a)) (put e (some d) (.bptr b.length 0)) (b ++ [.cells .var (z.map constAV)]) f fun v b' f' => aOps C K rest (put (put e (some d) (.bptr b.length 0)) none v) b' f'
  unfold aOp evG ev
  simp only [e1, e2]
  unfold unG
  simp only [e3]
  refine Need.mk ⟨hc, by rw [List.length_map]; omega⟩ ?_
  rw [List.set_append_right _ _ (Nat.le_refl _), Nat.sub_self, List.set_cons_zero, e4 _ (by rw [List.length_map]; omega)]
  exact hk
theorem okT_a {α : Type} (T : Ty α) (a : α) : okT (.a (T.q a)) = true := T.hok a
theorem aOps_mv {C : Con} {K : Env → List ABox → Fr → Prop} {d : Option Nat} {x : Operand} {rest : List AO} {e : Env} {b : List ABox} {f : Fr} (hk : aOps C K rest (put e d (ev e x)) b f) : aOps C K (⟨d, none, .mv x⟩ :: rest) e b f := hk
theorem aOps_ext {C : Con} {K : Env → List ABox → Fr → Prop} {d : Option Nat} {a i : Nat} {rest : List AO} {e : Env} {b : List ABox} {f : Fr} {vs : List AV} (x : AV) (ha : look e a = .tup vs) (hx : vs[i]? = some x)
    (hk : aOps C K rest (put e d x) b f) : aOps C K (⟨d, none, .extract (.tmp a) i⟩ :: rest) e b f := by
  show aOp C (.extract (.tmp a) i) e b f fun v b' f' => aOps C K rest (put e d v) b' f'
  unfold aOp aVal evG ev
  simp only [ha]
  unfold unG
  simp only [hx]
  exact hk
end Abs
end Go.Proofs.Ytlmlfkjdgnpmjaa
namespace Go.Proofs.Ytlmlfkjdgnpmjaa
open Abs
def lawExactInstance.code : ACode := (.seq (.region false [s 2 (.box (t 0)), s 4 (.mv (.const (.bool false)))]) (.seq (.region false [s 5 (.mv (.const (.int .i64 1048576)))]) (.seq (.region false [s 17 (.load true 2 (t 2)), s 18 (.mv (t 5)), s 19 (.call 7 [(t 17), (t 18)]), s 5 (.mv (t 19))]) (.seq (.seq (.region false [s 20 (.mv (t 5)), s 21 (.bin .lss (t 20) (.const (.int .i64 0)))]) (.cond (t 21) (.seq (.region false [s 4 (.mv (.const (.bool true)))]) .ret) .skip)) (.seq (.region false [s 22 (.mv (t 1)), s 23 (.mv (t 5)), s 24 (.call 8 [(t 22), (t 23)]), s 5 (.mv (t 24))]) (.seq (.seq (.region false [s 25 (.mv (t 5)), s 26 (.bin .lss (t 25) (.const (.int .i64 0)))]) (.cond (t 26) (.seq (.region false [s 4 (.mv (.const (.bool true)))]) .ret) .skip)) (.seq (.region false [s 28 (.load true 2 (t 2)), s 29 (.call 10 [(t 28)]), s 30 (.mv (t 1)), s 31 (.call 11 [(t 30)]), s 32 (.call 9 [(t 29), (t 31)]), s 27 (.mv (t 32)), s 33 (.extract (t 27) 0), s 34 (.extract (t 27) 1), s 6 (.alloc [(.string (.mk (.mk []))), (.slice none 0 0)]), ⟨none, none, (.store 2 (t 6) (t 33))⟩, s 7 (.mv (t 34))]) (.seq (.region false [s 35 (.load true 2 (t 2)), s 36 (.call 10 [(t 35)]), s 8 (.alloc [(.string (.mk (.mk []))), (.slice none 0 0)]), ⟨none, none, (.store 2 (t 8) (t 36))⟩]) (.seq (.region false [s 37 (.mv (t 1)), s 38 (.call 11 [(t 37)]), s 9 (.mv (t 38))]) (.seq (.region false [s 40 (.load true 2 (t 8)), s 41 (.mv (t 9)), s 42 (.call 12 [(t 40), (t 41)]), s 39 (.mv (t 42)), s 43 (.extract (t 39) 0), s 44 (.extract (t 39) 1), s 10 (.alloc [(.string (.mk (.mk []))), (.slice none 0 0)]), ⟨none, none, (.store 2 (t 10) (t 43))⟩, s 11 (.mv (t 44))]) (.seq (.seq (.region false [s 45 (.load true 2 (t 10)), s 46 (.load true 2 (t 6)), s 47 (.call 13 [(t 45), (t 46)]), s 48 (.not (t 47)), s 49 (.mv (t 48)), g 49 false 50 (.mv (t 11)), g 49 false 51 (.mv (t 7)), g 49 false 52 (.binb .neq (t 50) (t 51)), s 53 (.or (t 49) (t 52))]) (.cond (t 53) (.seq (.region false [s 4 (.mv (.const (.bool false)))]) .ret) .skip)) (.seq (.seq (.held [s 54 (.load true 2 (t 8)), s 55 (.load true 2 (t 2)), s 56 (.call 10 [(t 55)])] [s 57 (.call 14 [(t 54), (t 56)]), s 58 (.not (t 57))]) (.cond (t 58) (.seq (.region false [s 4 (.mv (.const (.bool false)))]) .ret) .skip)) (.seq (.seq (.region false [s 59 (.mv (t 9)), s 60 (.mv (t 1)), s 61 (.call 11 [(t 60)]), s 62 (.call 15 [(t 59), (t 61)]), s 63 (.not (t 62))]) (.cond (t 63) (.seq (.region false [s 4 (.mv (.const (.bool false)))]) .ret) .skip)) (.seq (.region false [s 12 (.mv (.const (.int .i64 1)))]) (.seq (.region false [s 64 (.load true 2 (t 8)), s 65 (.mv (t 12)), s 66 (.call 16 [(t 64), (t 65)]), s 12 (.mv (t 66))]) (.seq (.region false [s 67 (.mv (t 9)), s 68 (.mv (t 12)), s 69 (.call 17 [(t 67), (t 68)]), s 12 (.mv (t 69))]) (.seq (.seq (.region false [s 70 (.mv (t 12)), s 71 (.bin .lss (t 70) (.const (.int .i64 0))), s 72 (.mv (t 71)), g 72 false 73 (.load true 2 (t 10)), g 72 false 74 (.load true 2 (t 6)), g 72 false 75 (.call 13 [(t 73), (t 74)]), g 72 false 76 (.not (t 75)), s 77 (.or (t 72) (t 76)), s 78 (.mv (t 77)), g 78 false 79 (.mv (t 11)), g 78 false 80 (.mv (t 7)), g 78 false 81 (.binb .neq (t 79) (t 80)), s 82 (.or (t 78) (t 81))]) (.cond (t 82) (.seq (.region false [s 4 (.mv (.const (.bool false)))]) .ret) .skip)) (.seq (.region false [s 13 (.mv (.const (.int .i64 1)))]) (.seq (.region false [s 83 (.load true 2 (t 10)), s 84 (.mv (t 13)), s 85 (.call 18 [(t 83), (t 84)]), s 13 (.mv (t 85))]) (.seq (.region false [s 14 (.mv (.const (.int .i64 1)))]) (.seq (.region false [s 86 (.load true 2 (t 10)), s 87 (.mv (t 14)), s 88 (.call 19 [(t 86), (t 87)]), s 14 (.mv (t 88))]) (.seq (.seq (.region false [s 89 (.mv (t 14)), s 90 (.bin .lss (t 89) (.const (.int .i64 0)))]) (.cond (t 90) (.seq (.region false [s 4 (.mv (.const (.bool false)))]) .ret) .skip)) (.seq (.seq (.region false [s 91 (.mv (t 14)), s 92 (.mv (t 13)), s 93 (.bin .neq (t 91) (t 92))]) (.cond (t 93) (.seq (.region false [s 4 (.mv (.const (.bool false)))]) .ret) .skip)) (.seq (.region false [s 95 (.load true 2 (t 2)), s 96 (.call 10 [(t 95)]), s 97 (.mv (t 1)), s 98 (.call 11 [(t 97)]), s 99 (.call 12 [(t 96), (t 98)]), s 94 (.mv (t 99)), s 100 (.extract (t 94) 0), s 101 (.extract (t 94) 1), s 15 (.alloc [(.string (.mk (.mk []))), (.slice none 0 0)]), ⟨none, none, (.store 2 (t 15) (t 100))⟩, s 16 (.mv (t 101))]) (.seq (.seq (.region false [s 102 (.load true 2 (t 15)), s 103 (.load true 2 (t 6)), s 104 (.call 13 [(t 102), (t 103)]), s 105 (.not (t 104)), s 106 (.mv (t 105)), g 106 false 107 (.mv (t 16)), g 106 false 108 (.mv (t 7)), g 106 false 109 (.binb .neq (t 107) (t 108)), s 110 (.or (t 106) (t 109))]) (.cond (t 110) (.seq (.region false [s 4 (.mv (.const (.bool false)))]) .ret) .skip)) (.seq (.region false [s 14 (.mv (.const (.int .i64 1)))]) (.seq (.region false [s 111 (.load true 2 (t 10)), s 112 (.mv (t 14)), s 113 (.call 19 [(t 111), (t 112)]), s 14 (.mv (t 113))]) (.seq (.seq (.region false [s 114 (.mv (t 14)), s 115 (.bin .lss (t 114) (.const (.int .i64 0)))]) (.cond (t 115) (.seq (.region false [s 4 (.mv (.const (.bool false)))]) .ret) .skip)) (.seq (.seq (.region false [s 116 (.mv (t 14)), s 117 (.mv (t 13)), s 118 (.bin .neq (t 116) (t 117))]) (.cond (t 118) (.seq (.region false [s 4 (.mv (.const (.bool false)))]) .ret) .skip)) (.seq (.region false [s 4 (.mv (.const (.bool true)))]) .ret))))))))))))))))))))))))))))))
def lawExactInstance.keep : List Nat := [0, 1, 2, 4, 5, 6, 7, 8, 9, 10, 11, 12, 13, 14, 15, 16]
def lawExactInstance.res : List RRes := [.tmp 4]
theorem lawExactInstance.ofS {mo : Bool} {args : List AV} {r : AV} (hr : isScalR r = true) (hn : Nat.ble args.length Try.f3.ntmps = true) (h : aCode (Kn mo Try.prog) lawExactInstance.keep 0 lawExactInstance.code (doneS lawExactInstance.res r) ⟨argEnv 0 args, [], []⟩) : Abs.Ret mo Try.prog 3 args r [] :=
  Abs.Ret.of_irS hr Try.func3 rfl (by kernel_rfl) (Nat.le_of_ble_eq_true hn) (by kernel_rfl) (by kernel_rfl) h
abbrev lawExactInstance.Ret (args : List AV) (r : AV) (frs : Fr) : Prop := Abs.Ret true Try.prog 3 args r frs
end Go.Proofs.Ytlmlfkjdgnpmjaa
namespace Go.Proofs.Ytlmlfkjdgnpmjaa
open Abs
abbrev VPattern := Str × List Str
instance : DecidableEq VPattern := instDecidableEqProd
def tPattern : Ty VPattern := Ty.pair Ty.str tStrs
theorem tPattern_size (a : VPattern) : tPattern.size a = a.1.length + tStrs.size a.2 := rfl
theorem tPattern_cn : CnB tPattern 2 := CnB.pair CnB.str (CnB.plain CnB.str _ _ _)
theorem tPattern_cnA (f : VPattern) : cn (.a (tPattern.q f)) ≤ cnC (tPattern.q f) := by
  show 0 + (cn (.l 9 1 (f.2.map Ty.str.q)) + (0)) ≤ 1 + (cn (.l 9 1 (f.2.map Ty.str.q)) + (0))
  omega
theorem toPattern.ret (a : VPattern) (h : tPattern.size a ≤ 1048576) : toPattern.Ret [.agg (oldL (tPattern.q a))] (.agg (tPattern.tk a 0)) (tPattern.fr a) := by
  refine toPattern.of rfl ?_
  rw [tPattern_size] at h
  have hf1 := tStrs_size a.2
  repeat' first
    | contradiction | exact trivial
    | (conv => whnf
       first | refine Need.mk (fun h => h) ?_ | refine Need.mk rfl ?_ | refine Need.mk ⟨rfl, Nat.le_of_ble_eq_true rfl⟩ ?_ | refine Need.mk (Nat.le_of_ble_eq_true rfl) ?_ | refine Need.fin ?_ | refine Need.mk ?_ ?_ | refine Ix.strsF rfl ?_ | refine Ix.strs rfl ?_ ?_ | refine Cut.strs rfl ?_ ?_ | refine Ix.mapF (fun _ => rfl) ?_ | refine Ix.map (fun _ => rfl) ?_ ?_ | refine Cut.map (fun _ => rfl) ?_ ?_ | refine Fork.yes (by assumption) ?_ | refine Fork.no (by assumption) ?_ | refine Fork.decYes (by omega) ?_ | refine Fork.decNo (by omega) ?_ | refine Fork.dec (fun _ => ?_) (fun _ => ?_) | refine Fork.bne (fun _ => ?_) (fun _ => ?_) | refine Fork.beq (fun _ => ?_) (fun _ => ?_) | refine Fork.seq (fun _ => ?_) (fun _ => ?_) | refine Fork.sne (fun _ => ?_) (fun _ => ?_) | refine Fork.neg (fun _ => ?_) (fun _ => ?_) | refine Fork.mk (fun _ => ?_) (fun _ => ?_) | refine HAlt.mk ?_ ?_ | apply HJoin.mk3 | exact HEnd.mk rfl rfl rfl | refine HEnd.mk ?_ ?_ ?_ | refine Round.mk ?_ | refine NilQ.mk (fun b hb => ?_) | refine forceK_of ?_ | refine forceBx_of ?_ | refine unG_old ?_ | refine unG_gv ?_ | refine Lit.read rfl ?_ | refine FinVal.keep ?_ | refine FinAgg.keep ?_ | refine Final.mk rfl rfl | refine Final.mk ?_ rfl | refine Final.mk ?_ ?_ | refine FinalT.mk ?_ ?_ | refine FinalC.allA ?_ | refine ACall.mk_StringS _ _ (toStringS.ret _ ?_) (by repeat' first | exact SeesL.nil | refine SeesL.cons ?_ ?_ | exact SeesB.of0 (Sees0.val _) | exact SeesB.of0 (Sees0.str _) | exact SeesB.of0 (Sees0.olds _ _) | exact SeesB.of0 (Sees0.old _) | exact SeesB.of0 (Sees0.oldagg _) | exact SeesB.of0 Sees0.nil | exact Sees0.val _ | exact Sees0.str _ | exact Sees0.olds _ _ | exact Sees0.old _ | exact Sees0.oldagg _ | exact Sees0.nil | exact SeesB.of0 (Sees0.any _) | assumption | exact sees_gv _ _ _ (by assumption) (by first | assumption | exact BoxIn.last _ _ | exact BoxIn.more (BoxIn.last _ _) _) | refine SeesB.agg ?_ | refine Sees0.agg ?_ | exact SeesB.of0 (Sees0.clo SeesL.nil SeesL.nil) | exact Sees0.clo SeesL.nil SeesL.nil | exact SeesB.of0 (Sees0.list rfl) | exact Sees0.list rfl) ?_)
    | refine AV.bool_congr ?_ | refine AV.int_congr ?_ | refine AV.str_congr ?_ | refine AV.list_congr ?_ | with_reducible rfl | refine fr1 ?_ | refine fr2 ?_ ?_
  all_goals first
    | omega
    | (refine congrArg AV.agg ?_
       repeat' first
         | refine cons_congr ?_ ?_
         | refine tok_congr ?_ ?_
         | refine congrArg (tks _ _) ?_
         | rfl
       all_goals (simp [Ty.pair, Ty.str, Ty.int, Ty.bool, Nat.add_assoc, Ty.plain, tStrs]; done))
    | (simp [tPattern, Ty.pair, Ty.str, Ty.int, Ty.bool, List.append_assoc, Nat.add_assoc, Ty.plain, tStrs]; done)
theorem toPattern.own (a : VPattern) (h : tPattern.size a ≤ 1048576) : toPattern.Own [.agg (oldL (tPattern.q a))] (.a (tPattern.q a)) := Ty.ownA tPattern (toPattern.ret a h)
theorem szPattern.ret (f : VPattern) (a : Int) (h0 : 0 ≤ a) (ha : a ≤ 1048576) (hb : tPattern.bd f) :
    szPattern.Ret [.agg (oldL (tPattern.q f)), .val (.int .i64 a)] (.val (.int .i64 (left a (tPattern.size f)))) [] := by
  refine szPattern.of rfl ?_
  have hz := tPattern_size f
  obtain ⟨hb0, hb1⟩ := hb
  have hb0 : f.1.length ≤ 9223372036854775807 := hb0
  obtain ⟨hbl1, hbe1⟩ := hb1
  have hy1 := szT_eq f.2
  by_cases c1 : a < (f.1.length : Int)
  · have e0 : IntKind.i64.wrap (a - (f.1.length : Int)) = a - (f.1.length : Int) := by rw [wrap64 (by omega) (by omega)]
    repeat' first
      | contradiction | exact trivial
      | (conv => whnf
         first | refine Need.mk (fun h => h) ?_ | refine Need.mk rfl ?_ | refine Need.mk ⟨rfl, Nat.le_of_ble_eq_true rfl⟩ ?_ | refine Need.mk (Nat.le_of_ble_eq_true rfl) ?_ | refine Need.fin ?_ | refine Need.mk ?_ ?_ | refine Ix.strsF rfl ?_ | refine Ix.strs rfl ?_ ?_ | refine Cut.strs rfl ?_ ?_ | refine Ix.mapF (fun _ => rfl) ?_ | refine Ix.map (fun _ => rfl) ?_ ?_ | refine Cut.map (fun _ => rfl) ?_ ?_ | refine Fork.yes (by assumption) ?_ | refine Fork.no (by assumption) ?_ | refine Fork.decYes (by omega) ?_ | refine Fork.decNo (by omega) ?_ | refine Fork.dec (fun _ => ?_) (fun _ => ?_) | refine Fork.bne (fun _ => ?_) (fun _ => ?_) | refine Fork.beq (fun _ => ?_) (fun _ => ?_) | refine Fork.seq (fun _ => ?_) (fun _ => ?_) | refine Fork.sne (fun _ => ?_) (fun _ => ?_) | refine Fork.neg (fun _ => ?_) (fun _ => ?_) | refine Fork.mk (fun _ => ?_) (fun _ => ?_) | refine HAlt.mk ?_ ?_ | apply HJoin.mk3 | exact HEnd.mk rfl rfl rfl | refine HEnd.mk ?_ ?_ ?_ | refine Round.mk ?_ | refine NilQ.mk (fun b hb => ?_) | refine forceK_of ?_ | refine forceBx_of ?_ | refine unG_old ?_ | refine unG_gv ?_ | refine Lit.read rfl ?_ | refine FinVal.keep ?_ | refine FinAgg.keep ?_ | refine Final.mk rfl rfl | refine Final.mk ?_ rfl | refine Final.mk ?_ ?_ | refine FinalT.mk ?_ ?_ | refine FinalC.allA ?_ | refine ACall.scalA _ _ (szStringS.ret _ _ ?_ ?_ ?_ ?_) rfl ?_ | refine AQCall.mkA _ _ (fun hg => szStringS.ret _ _ ?_ ?_ ?_ ?_) rfl ?_)
      | refine AV.bool_congr ?_ | refine AV.int_congr ?_ | refine AV.str_congr ?_ | refine AV.list_congr ?_ | with_reducible rfl | refine fr1 ?_ | refine fr2 ?_ ?_
    all_goals first
      | assumption
      | omega
      | exact left_eq (by omega)
  by_cases c2 : a < (f.1.length : Int) + (szT f.2 : Int)
  · have e0 : IntKind.i64.wrap (a - (f.1.length : Int)) = a - (f.1.length : Int) := by rw [wrap64 (by omega) (by omega)]
    have e1 : left (IntKind.i64.wrap (a - (f.1.length : Int))) (szT f.2) = -1 := by rw [e0, left, if_pos (by omega)]
    repeat' first
      | contradiction | exact trivial
      | (conv => whnf
         first | refine Need.mk (fun h => h) ?_ | refine Need.mk rfl ?_ | refine Need.mk ⟨rfl, Nat.le_of_ble_eq_true rfl⟩ ?_ | refine Need.mk (Nat.le_of_ble_eq_true rfl) ?_ | refine Need.fin ?_ | refine Need.mk ?_ ?_ | refine Ix.strsF rfl ?_ | refine Ix.strs rfl ?_ ?_ | refine Cut.strs rfl ?_ ?_ | refine Ix.mapF (fun _ => rfl) ?_ | refine Ix.map (fun _ => rfl) ?_ ?_ | refine Cut.map (fun _ => rfl) ?_ ?_ | refine Fork.yes (by assumption) ?_ | refine Fork.no (by assumption) ?_ | refine Fork.decYes (by omega) ?_ | refine Fork.decNo (by omega) ?_ | refine Fork.dec (fun _ => ?_) (fun _ => ?_) | refine Fork.bne (fun _ => ?_) (fun _ => ?_) | refine Fork.beq (fun _ => ?_) (fun _ => ?_) | refine Fork.seq (fun _ => ?_) (fun _ => ?_) | refine Fork.sne (fun _ => ?_) (fun _ => ?_) | refine Fork.neg (fun _ => ?_) (fun _ => ?_) | refine Fork.mk (fun _ => ?_) (fun _ => ?_) | refine HAlt.mk ?_ ?_ | apply HJoin.mk3 | exact HEnd.mk rfl rfl rfl | refine HEnd.mk ?_ ?_ ?_ | refine Round.mk ?_ | refine NilQ.mk (fun b hb => ?_) | refine forceK_of ?_ | refine forceBx_of ?_ | refine unG_old ?_ | refine unG_gv ?_ | refine Lit.read rfl ?_ | refine FinVal.keep ?_ | refine FinAgg.keep ?_ | refine Final.mk rfl rfl | refine Final.mk ?_ rfl | refine Final.mk ?_ ?_ | refine FinalT.mk ?_ ?_ | refine FinalC.allA ?_ | refine ACall.scalA _ _ (szStringS.ret _ _ ?_ ?_ ?_ ?_) rfl ?_ | refine AQCall.mkA _ _ (fun hg => szStringS.ret _ _ ?_ ?_ ?_ ?_) rfl ?_)
      | refine AV.bool_congr ?_ | refine AV.int_congr ?_ | refine AV.str_congr ?_ | refine AV.list_congr ?_ | with_reducible rfl | refine fr1 ?_ | refine fr2 ?_ ?_
    all_goals first
      | assumption
      | omega
      | exact left_eq (by omega)
  have e0 : IntKind.i64.wrap (a - (f.1.length : Int)) = a - (f.1.length : Int) := by rw [wrap64 (by omega) (by omega)]
  have e1 : left (IntKind.i64.wrap (a - (f.1.length : Int))) (szT f.2) = a - (f.1.length : Int) - (szT f.2 : Int) := by rw [e0, left, if_neg (by omega)]
  repeat' first
    | contradiction | exact trivial
    | (conv => whnf
       first | refine Need.mk (fun h => h) ?_ | refine Need.mk rfl ?_ | refine Need.mk ⟨rfl, Nat.le_of_ble_eq_true rfl⟩ ?_ | refine Need.mk (Nat.le_of_ble_eq_true rfl) ?_ | refine Need.fin ?_ | refine Need.mk ?_ ?_ | refine Ix.strsF rfl ?_ | refine Ix.strs rfl ?_ ?_ | refine Cut.strs rfl ?_ ?_ | refine Ix.mapF (fun _ => rfl) ?_ | refine Ix.map (fun _ => rfl) ?_ ?_ | refine Cut.map (fun _ => rfl) ?_ ?_ | refine Fork.yes (by assumption) ?_ | refine Fork.no (by assumption) ?_ | refine Fork.decYes (by omega) ?_ | refine Fork.decNo (by omega) ?_ | refine Fork.dec (fun _ => ?_) (fun _ => ?_) | refine Fork.bne (fun _ => ?_) (fun _ => ?_) | refine Fork.beq (fun _ => ?_) (fun _ => ?_) | refine Fork.seq (fun _ => ?_) (fun _ => ?_) | refine Fork.sne (fun _ => ?_) (fun _ => ?_) | refine Fork.neg (fun _ => ?_) (fun _ => ?_) | refine Fork.mk (fun _ => ?_) (fun _ => ?_) | refine HAlt.mk ?_ ?_ | apply HJoin.mk3 | exact HEnd.mk rfl rfl rfl | refine HEnd.mk ?_ ?_ ?_ | refine Round.mk ?_ | refine NilQ.mk (fun b hb => ?_) | refine forceK_of ?_ | refine forceBx_of ?_ | refine unG_old ?_ | refine unG_gv ?_ | refine Lit.read rfl ?_ | refine FinVal.keep ?_ | refine FinAgg.keep ?_ | refine Final.mk rfl rfl | refine Final.mk ?_ rfl | refine Final.mk ?_ ?_ | refine FinalT.mk ?_ ?_ | refine FinalC.allA ?_ | refine ACall.scalA _ _ (szStringS.ret _ _ ?_ ?_ ?_ ?_) rfl ?_ | refine AQCall.mkA _ _ (fun hg => szStringS.ret _ _ ?_ ?_ ?_ ?_) rfl ?_)
    | refine AV.bool_congr ?_ | refine AV.int_congr ?_ | refine AV.str_congr ?_ | refine AV.list_congr ?_ | with_reducible rfl | refine fr1 ?_ | refine fr2 ?_ ?_
  all_goals first
    | assumption
    | omega
    | exact left_eq (by omega)
theorem eqPattern.big (f g : VPattern) (h : tPattern.size f ≤ 1099511627775) : eqPattern.Ret [.agg (oldL (tPattern.q f)), .agg (oldL (tPattern.q g))] (.val (.bool (decide (f = g)))) [] := by
  refine eqPattern.of rfl ?_
  have hz := tPattern_size f
  repeat' first
    | contradiction | exact trivial
    | (conv => whnf
       first | refine Need.mk (fun h => h) ?_ | refine Need.mk rfl ?_ | refine Need.mk ⟨rfl, Nat.le_of_ble_eq_true rfl⟩ ?_ | refine Need.mk (Nat.le_of_ble_eq_true rfl) ?_ | refine Need.fin ?_ | refine Need.mk ?_ ?_ | refine Ix.strsF rfl ?_ | refine Ix.strs rfl ?_ ?_ | refine Cut.strs rfl ?_ ?_ | refine Ix.mapF (fun _ => rfl) ?_ | refine Ix.map (fun _ => rfl) ?_ ?_ | refine Cut.map (fun _ => rfl) ?_ ?_ | refine Fork.yes (by assumption) ?_ | refine Fork.no (by assumption) ?_ | refine Fork.decYes (by omega) ?_ | refine Fork.decNo (by omega) ?_ | refine Fork.dec (fun _ => ?_) (fun _ => ?_) | refine Fork.bne (fun _ => ?_) (fun _ => ?_) | refine Fork.beq (fun _ => ?_) (fun _ => ?_) | refine Fork.seq (fun _ => ?_) (fun _ => ?_) | refine Fork.sne (fun _ => ?_) (fun _ => ?_) | refine Fork.neg (fun _ => ?_) (fun _ => ?_) | refine Fork.mk (fun _ => ?_) (fun _ => ?_) | refine HAlt.mk ?_ ?_ | apply HJoin.mk3 | exact HEnd.mk rfl rfl rfl | refine HEnd.mk ?_ ?_ ?_ | refine Round.mk ?_ | refine NilQ.mk (fun b hb => ?_) | refine forceK_of ?_ | refine forceBx_of ?_ | refine unG_old ?_ | refine unG_gv ?_ | refine Lit.read rfl ?_ | refine FinVal.keep ?_ | refine FinAgg.keep ?_ | refine Final.mk rfl rfl | refine Final.mk ?_ rfl | refine Final.mk ?_ ?_ | refine FinalT.mk ?_ ?_ | refine FinalC.allA ?_ | refine ACall.scalA _ _ (eqStringS.big _ _ ?_) rfl ?_ | refine AQCall.mkA _ _ (fun hg => eqStringS.big _ _ ?_) rfl ?_)
    | refine AV.bool_congr ?_ | refine AV.int_congr ?_ | refine AV.str_congr ?_ | refine AV.list_congr ?_ | with_reducible rfl | refine fr1 ?_ | refine fr2 ?_ ?_
  all_goals first
    | omega
    | (simp only [tStrs_size, tInts_size] at *; omega)
    | (obtain ⟨x0, x1⟩ := f; obtain ⟨y0, y1⟩ := g; simp_all)
theorem markPattern.tn (f : VPattern) (k : Nat) (hs : tPattern.size f ≤ 1099511627775) (hk : k + cn (.a (tPattern.q f)) ≤ 1099511627775) :
    markPattern.Turn (gb (.a (tPattern.q f)) 0) [gv (.a (tPattern.q f)) 0, .val (.int .i64 k)] (.val (.int .i64 ((k + cn (.a (tPattern.q f)) : Nat)))) (gb (mk (.a (tPattern.q f)) k) 0) := by
  refine markPattern.ofT rfl rfl (by rw [length_gb, nb_mk]) ?_
  have hz5 := tPattern_size f
  obtain ⟨cs, hcs⟩ : ∃ cs : List Tr, cs = [.s f.1, .l 9 1 (f.2.map Ty.str.q)] := ⟨_, rfl⟩
  have hun : tPattern.q f = unA cs := by rw [hcs]; rfl
  have hc0 : cs[0]? = some (.s f.1) := by rw [hcs]; rfl
  have hc1 : cs[1]? = some (.l 9 1 (f.2.map Ty.str.q)) := by rw [hcs]; rfl
  have hka : k + cnA cs ≤ 1099511627775 := by rw [← cnA_unA, ← hun]; exact hk
  have hcl : cs.length = 2 := by rw [hcs]; rfl
  have e1 : gb (.a (tPattern.q f)) 0 = gbL (sa cs k 0) 0 := by rw [gb, hun, gbL_unA]; rfl
  have e2 : gb (mk (.a (tPattern.q f)) k) 0 = gbL (sa cs k 2) 0 := by rw [mk, gb, hun, mkA_unA, gbL_unA, sa_all cs k hcl.symm]
  have e3 : cn (.a (tPattern.q f)) = cnA (cs.take 2) := by rw [cn, hun, cnA_unA, List.take_of_length_le (by omega)]
  rw [e1, e2, e3]
  obtain ⟨nz, hnz⟩ : ∃ nz, nz = (gbL (sa cs k 0) 0).length := ⟨_, rfl⟩
  have hlb : ∀ p, (gbL (sa cs k p) 0).length = nz := fun p => by rw [hnz, length_gbL, length_gbL, nbL_sa, nbL_sa]
  have hat : ∀ p : Nat, (gbL (sa cs k p) 0 ++ [.cells .var (gvL (tPattern.q f) 0)])[(gbL (sa cs k 0) 0).length]? = some (.cells .var (gvL (tPattern.q f) 0)) := fun p => by
    rw [← hnz, List.getElem?_append_right (by rw [hlb]; exact Nat.le_refl _), hlb, Nat.sub_self]; rfl
  have n0 : cnA (cs.take 1) = cnA (cs.take 0) := cnA_succ hc0
  have s0 : gbL (sa cs k 1) 0 = gbL (sa cs k 0) 0 := by rw [sa_succ k hc0, sa_at k hc0]; rfl
  have n1 : cnA (cs.take 2) = cnA (cs.take 1) + cn (.l 9 1 (f.2.map Ty.str.q)) := cnA_succ hc1
  have l1 := cnA_take_le cs 2
  clear e1 e2 e3
  repeat' first
    | contradiction | exact trivial
    | (conv => whnf
       first | refine Need.mk (fun h => h) ?_ | refine Need.mk rfl ?_ | refine Need.mk ⟨rfl, Nat.le_of_ble_eq_true rfl⟩ ?_ | refine Need.mk (Nat.le_of_ble_eq_true rfl) ?_ | refine Need.fin ?_ | refine Need.mk ⟨rfl, by simp only [length_setAt, List.length_set, length_gvL, length_st, Int.toNat_natCast]; omega⟩ ?_ | refine Need.mk ?_ ?_ | refine Ix.strsF rfl ?_ | refine Ix.strs rfl ?_ ?_ | refine Cut.strs rfl ?_ ?_ | refine Ix.mapF (fun _ => rfl) ?_ | refine Ix.map (fun _ => rfl) ?_ ?_ | refine Cut.map (fun _ => rfl) ?_ ?_ | refine Fork.yes (by assumption) ?_ | refine Fork.no (by assumption) ?_ | refine Fork.decYes (by omega) ?_ | refine Fork.decNo (by omega) ?_ | refine Fork.dec (fun _ => ?_) (fun _ => ?_) | refine Fork.bne (fun _ => ?_) (fun _ => ?_) | refine Fork.beq (fun _ => ?_) (fun _ => ?_) | refine Fork.seq (fun _ => ?_) (fun _ => ?_) | refine Fork.sne (fun _ => ?_) (fun _ => ?_) | refine Fork.neg (fun _ => ?_) (fun _ => ?_) | refine Fork.mk (fun _ => ?_) (fun _ => ?_) | refine HAlt.mk ?_ ?_ | apply HJoin.mk3 | exact HEnd.mk rfl rfl rfl | refine HEnd.mk ?_ ?_ ?_ | refine Round.mk ?_ | refine NilQ.mk (fun b hb => ?_) | refine forceK_of ?_ | refine forceBx_of ?_ | refine unG_old ?_ | refine unG_gv ?_ | refine Lit.read rfl ?_ | refine FinVal.keep ?_ | refine FinAgg.keep ?_ | refine Final.mk rfl rfl | refine Final.mk ?_ rfl | refine Final.mk ?_ ?_ | refine FinalT.mk ?_ ?_ | refine FinalC.allA ?_)
    | refine AV.bool_congr ?_ | refine AV.int_congr ?_ | refine AV.str_congr ?_ | refine AV.list_congr ?_ | with_reducible rfl | refine fr1 ?_ | refine fr2 ?_ ?_
  have t1 : markStringS.Turn (gb (.l 9 1 (f.2.map Ty.str.q)) 0) [gv (.l 9 1 (f.2.map Ty.str.q)) 0, .val (.int .i64 ((k + cnA (cs.take 1) : Nat)))] (.val (.int .i64 ((k + cnA (cs.take 2) : Nat)))) (gb (mk (.l 9 1 (f.2.map Ty.str.q)) (k + cnA (cs.take 1))) 0) := by
    have h := markStringS.tn f.2 (k + cnA (cs.take 1)) (by omega) (by have := n1; change _ = _ + cn (.l 9 1 (f.2.map Ty.str.q)) at this; omega)
    rw [Nat.add_assoc] at h
    change markStringS.Turn _ _ (.val (.int .i64 ((k + (cnA (cs.take 1) + cn (.l 9 1 (f.2.map Ty.str.q))) : Nat)))) _ at h
    rw [← n1] at h; exact h
  have hk1 : ((k + cnA (cs.take 1) : Nat) : Int) = (k : Int) := by rw [n0, List.take_zero]; rfl
  conv => whnf
  refine ld_at _ _ (hat 0) rfl ?_
  conv => whnf
  refine ACall.turn' (gbL (sa cs k 2) 0 ++ [.cells .var (gvL (tPattern.q f) 0)]) [gv (.l 9 1 (f.2.map Ty.str.q)) 0, .val (.int .i64 ((k + cnA (cs.take 1) : Nat)))] (.l 9 1 (f.2.map Ty.str.q)) (mk (.l 9 1 (f.2.map Ty.str.q)) (k + cnA (cs.take 1))) _ (gbL (mkA (cs.take 1) k) 0) (gbL (cs.drop 2) (nbL (cs.take 1) + nb (.l 9 1 (f.2.map Ty.str.q))) ++ [.cells .var (gvL (tPattern.q f) 0)]) t1 rfl ?_ (nb_mk _ _) (.cons (.inl ⟨?_, rfl⟩) (.cons (.inr (by rw [hk1]; exact Sees0.val _)) .nil)) ?_ ?_
  · rw [← s0]; rw [bx_sa k hc1, List.append_assoc, List.append_assoc, List.append_assoc]
  · rw [length_gbL, nbL_mkA, hcs]
    refine AV.bsl_congr (j := 0 + 0) (j' := 0 + (0)) ?_ rfl
    simp only [Nat.add_zero, Nat.zero_add, Nat.add_assoc]
  · rw [bx_sa' k hc1, List.append_assoc, List.append_assoc, List.append_assoc]
  repeat' first
    | contradiction | exact trivial
    | (conv => whnf
       first | refine Need.mk (fun h => h) ?_ | refine Need.mk rfl ?_ | refine Need.mk ⟨rfl, Nat.le_of_ble_eq_true rfl⟩ ?_ | refine Need.mk (Nat.le_of_ble_eq_true rfl) ?_ | refine Need.fin ?_ | refine Need.mk ⟨rfl, by simp only [length_setAt, List.length_set, length_gvL, length_st, Int.toNat_natCast]; omega⟩ ?_ | refine Need.mk ?_ ?_ | refine Ix.strsF rfl ?_ | refine Ix.strs rfl ?_ ?_ | refine Cut.strs rfl ?_ ?_ | refine Ix.mapF (fun _ => rfl) ?_ | refine Ix.map (fun _ => rfl) ?_ ?_ | refine Cut.map (fun _ => rfl) ?_ ?_ | refine Fork.yes (by assumption) ?_ | refine Fork.no (by assumption) ?_ | refine Fork.decYes (by omega) ?_ | refine Fork.decNo (by omega) ?_ | refine Fork.dec (fun _ => ?_) (fun _ => ?_) | refine Fork.bne (fun _ => ?_) (fun _ => ?_) | refine Fork.beq (fun _ => ?_) (fun _ => ?_) | refine Fork.seq (fun _ => ?_) (fun _ => ?_) | refine Fork.sne (fun _ => ?_) (fun _ => ?_) | refine Fork.neg (fun _ => ?_) (fun _ => ?_) | refine Fork.mk (fun _ => ?_) (fun _ => ?_) | refine HAlt.mk ?_ ?_ | apply HJoin.mk3 | exact HEnd.mk rfl rfl rfl | refine HEnd.mk ?_ ?_ ?_ | refine Round.mk ?_ | refine NilQ.mk (fun b hb => ?_) | refine forceK_of ?_ | refine forceBx_of ?_ | refine unG_old ?_ | refine unG_gv ?_ | refine Lit.read rfl ?_ | refine FinVal.keep ?_ | refine FinAgg.keep ?_ | refine Final.mk rfl rfl | refine Final.mk ?_ rfl | refine Final.mk ?_ ?_ | refine FinalT.mk ?_ ?_ | refine FinalC.allA ?_)
    | refine AV.bool_congr ?_ | refine AV.int_congr ?_ | refine AV.str_congr ?_ | refine AV.list_congr ?_ | with_reducible rfl | refine fr1 ?_ | refine fr2 ?_ ?_
  all_goals first
    | (simp [hlb]; done)
    | rfl
    | (rw [Nat.add_zero]; done)
    | (rw [List.take_append_of_le_length (by rw [hlb, hlb]; exact Nat.le_refl _), List.take_of_length_le (by rw [hlb, hlb]; exact Nat.le_refl _)]; done)
end Go.Proofs.Ytlmlfkjdgnpmjaa
namespace Go.Proofs.Ytlmlfkjdgnpmjaa
open Abs
abbrev VPair := Str × Str
instance : DecidableEq VPair := instDecidableEqProd
def tPair : Ty VPair := Ty.pair Ty.str Ty.str
theorem tPair_size (a : VPair) : tPair.size a = a.1.length + a.2.length := rfl
theorem tPair_cn : CnB tPair 2 := CnB.pair CnB.str CnB.str
def tPairs : Ty (List VPair) := Ty.plain 66 tPair (fun _ => rfl) (fun _ => rfl)
theorem tPairs_sz (l : List VPair) : tPairs.size l = l.length + listSize tPair l := rfl
theorem tPair_get {l : List VPair} {i : Nat} (hi : i < l.length) : l[i]? = some (l.getD i default) := by simp [List.getD, hi]
theorem tPair_le {l : List VPair} {i : Nat} (hi : i < l.length) : tPair.size (l.getD i default) ≤ listSize tPair l := listSize_mem tPair (List.mem_of_getElem? (tPair_get hi))
theorem Abs.ACall.mk_Pair {C : Con} {lend : Bool} {f : Nat} {vs : List AV} {b : List ABox} {fr : Fr} {k : AV → List ABox → Fr → Prop} (ys : List AV) (a : VPair) (h : C.ret f ys (.agg (tPair.tk a 0)) []) (hv : SeesL Sees0 vs ys)
    (hk : k (.agg (tPair.tk a 0)) b fr) : ACall C lend f vs b fr k := by
  refine ACall.mkA tPair ys a h hv ?_
  show k _ b (fr ++ [])
  rw [List.append_nil]; exact hk
theorem toPair.ret (a : VPair) (h : tPair.size a ≤ 1048576) : toPair.Ret [.agg (oldL (tPair.q a))] (.agg (tPair.tk a 0)) [] := by
  refine toPair.of rfl ?_
  rw [tPair_size] at h
  repeat' first
    | contradiction | exact trivial
    | (conv => whnf
       first | refine Need.mk (fun h => h) ?_ | refine Need.mk rfl ?_ | refine Need.mk ⟨rfl, Nat.le_of_ble_eq_true rfl⟩ ?_ | refine Need.mk (Nat.le_of_ble_eq_true rfl) ?_ | refine Need.fin ?_ | refine Need.mk ?_ ?_ | refine Ix.strsF rfl ?_ | refine Ix.strs rfl ?_ ?_ | refine Cut.strs rfl ?_ ?_ | refine Ix.mapF (fun _ => rfl) ?_ | refine Ix.map (fun _ => rfl) ?_ ?_ | refine Cut.map (fun _ => rfl) ?_ ?_ | refine Fork.yes (by assumption) ?_ | refine Fork.no (by assumption) ?_ | refine Fork.decYes (by omega) ?_ | refine Fork.decNo (by omega) ?_ | refine Fork.dec (fun _ => ?_) (fun _ => ?_) | refine Fork.bne (fun _ => ?_) (fun _ => ?_) | refine Fork.beq (fun _ => ?_) (fun _ => ?_) | refine Fork.seq (fun _ => ?_) (fun _ => ?_) | refine Fork.sne (fun _ => ?_) (fun _ => ?_) | refine Fork.neg (fun _ => ?_) (fun _ => ?_) | refine Fork.mk (fun _ => ?_) (fun _ => ?_) | refine HAlt.mk ?_ ?_ | apply HJoin.mk3 | exact HEnd.mk rfl rfl rfl | refine HEnd.mk ?_ ?_ ?_ | refine Round.mk ?_ | refine NilQ.mk (fun b hb => ?_) | refine forceK_of ?_ | refine forceBx_of ?_ | refine unG_old ?_ | refine unG_gv ?_ | refine Lit.read rfl ?_ | refine FinVal.keep ?_ | refine FinAgg.keep ?_ | refine Final.mk rfl rfl | refine Final.mk ?_ rfl | refine Final.mk ?_ ?_ | refine FinalT.mk ?_ ?_ | refine FinalC.allA ?_)
    | refine AV.bool_congr ?_ | refine AV.int_congr ?_ | refine AV.str_congr ?_ | refine AV.list_congr ?_ | with_reducible rfl | refine fr1 ?_ | refine fr2 ?_ ?_
  all_goals first
    | omega
    | (refine congrArg AV.agg ?_
       repeat' first
         | refine cons_congr ?_ ?_
         | refine tok_congr ?_ ?_
         | refine congrArg (tks _ _) ?_
         | rfl
       all_goals (simp [Ty.pair, Ty.str, Ty.int, Ty.bool, Nat.add_assoc]; done))
    | (simp [tPair, Ty.pair, Ty.str, Ty.int, Ty.bool, List.append_assoc, Nat.add_assoc]; done)
theorem szPair.ret (f : VPair) (a : Int) (h0 : 0 ≤ a) (ha : a ≤ 1048576) (hb : tPair.bd f) :
    szPair.Ret [.agg (oldL (tPair.q f)), .val (.int .i64 a)] (.val (.int .i64 (left a (tPair.size f)))) [] := by
  refine szPair.of rfl ?_
  have hz := tPair_size f
  obtain ⟨hb0, hb1⟩ := hb
  have hb0 : f.1.length ≤ 9223372036854775807 := hb0
  have hb1 : f.2.length ≤ 9223372036854775807 := hb1
  by_cases c1 : a < (f.1.length : Int)
  · have e0 : IntKind.i64.wrap (a - (f.1.length : Int)) = a - (f.1.length : Int) := by rw [wrap64 (by omega) (by omega)]
    repeat' first
      | contradiction | exact trivial
      | (conv => whnf
         first | refine Need.mk (fun h => h) ?_ | refine Need.mk rfl ?_ | refine Need.mk ⟨rfl, Nat.le_of_ble_eq_true rfl⟩ ?_ | refine Need.mk (Nat.le_of_ble_eq_true rfl) ?_ | refine Need.fin ?_ | refine Need.mk ?_ ?_ | refine Ix.strsF rfl ?_ | refine Ix.strs rfl ?_ ?_ | refine Cut.strs rfl ?_ ?_ | refine Ix.mapF (fun _ => rfl) ?_ | refine Ix.map (fun _ => rfl) ?_ ?_ | refine Cut.map (fun _ => rfl) ?_ ?_ | refine Fork.yes (by assumption) ?_ | refine Fork.no (by assumption) ?_ | refine Fork.decYes (by omega) ?_ | refine Fork.decNo (by omega) ?_ | refine Fork.dec (fun _ => ?_) (fun _ => ?_) | refine Fork.bne (fun _ => ?_) (fun _ => ?_) | refine Fork.beq (fun _ => ?_) (fun _ => ?_) | refine Fork.seq (fun _ => ?_) (fun _ => ?_) | refine Fork.sne (fun _ => ?_) (fun _ => ?_) | refine Fork.neg (fun _ => ?_) (fun _ => ?_) | refine Fork.mk (fun _ => ?_) (fun _ => ?_) | refine HAlt.mk ?_ ?_ | apply HJoin.mk3 | exact HEnd.mk rfl rfl rfl | refine HEnd.mk ?_ ?_ ?_ | refine Round.mk ?_ | refine NilQ.mk (fun b hb => ?_) | refine forceK_of ?_ | refine forceBx_of ?_ | refine unG_old ?_ | refine unG_gv ?_ | refine Lit.read rfl ?_ | refine FinVal.keep ?_ | refine FinAgg.keep ?_ | refine Final.mk rfl rfl | refine Final.mk ?_ rfl | refine Final.mk ?_ ?_ | refine FinalT.mk ?_ ?_ | refine FinalC.allA ?_)
      | refine AV.bool_congr ?_ | refine AV.int_congr ?_ | refine AV.str_congr ?_ | refine AV.list_congr ?_ | with_reducible rfl | refine fr1 ?_ | refine fr2 ?_ ?_
    all_goals first
      | assumption
      | omega
      | exact left_eq (by omega)
  by_cases c2 : a < (f.1.length : Int) + (f.2.length : Int)
  · have e0 : IntKind.i64.wrap (a - (f.1.length : Int)) = a - (f.1.length : Int) := by rw [wrap64 (by omega) (by omega)]
    have e1 : IntKind.i64.wrap (IntKind.i64.wrap (a - (f.1.length : Int)) - (f.2.length : Int)) = a - (f.1.length : Int) - (f.2.length : Int) := by rw [e0, wrap64 (by omega) (by omega)]
    repeat' first
      | contradiction | exact trivial
      | (conv => whnf
         first | refine Need.mk (fun h => h) ?_ | refine Need.mk rfl ?_ | refine Need.mk ⟨rfl, Nat.le_of_ble_eq_true rfl⟩ ?_ | refine Need.mk (Nat.le_of_ble_eq_true rfl) ?_ | refine Need.fin ?_ | refine Need.mk ?_ ?_ | refine Ix.strsF rfl ?_ | refine Ix.strs rfl ?_ ?_ | refine Cut.strs rfl ?_ ?_ | refine Ix.mapF (fun _ => rfl) ?_ | refine Ix.map (fun _ => rfl) ?_ ?_ | refine Cut.map (fun _ => rfl) ?_ ?_ | refine Fork.yes (by assumption) ?_ | refine Fork.no (by assumption) ?_ | refine Fork.decYes (by omega) ?_ | refine Fork.decNo (by omega) ?_ | refine Fork.dec (fun _ => ?_) (fun _ => ?_) | refine Fork.bne (fun _ => ?_) (fun _ => ?_) | refine Fork.beq (fun _ => ?_) (fun _ => ?_) | refine Fork.seq (fun _ => ?_) (fun _ => ?_) | refine Fork.sne (fun _ => ?_) (fun _ => ?_) | refine Fork.neg (fun _ => ?_) (fun _ => ?_) | refine Fork.mk (fun _ => ?_) (fun _ => ?_) | refine HAlt.mk ?_ ?_ | apply HJoin.mk3 | exact HEnd.mk rfl rfl rfl | refine HEnd.mk ?_ ?_ ?_ | refine Round.mk ?_ | refine NilQ.mk (fun b hb => ?_) | refine forceK_of ?_ | refine forceBx_of ?_ | refine unG_old ?_ | refine unG_gv ?_ | refine Lit.read rfl ?_ | refine FinVal.keep ?_ | refine FinAgg.keep ?_ | refine Final.mk rfl rfl | refine Final.mk ?_ rfl | refine Final.mk ?_ ?_ | refine FinalT.mk ?_ ?_ | refine FinalC.allA ?_)
      | refine AV.bool_congr ?_ | refine AV.int_congr ?_ | refine AV.str_congr ?_ | refine AV.list_congr ?_ | with_reducible rfl | refine fr1 ?_ | refine fr2 ?_ ?_
    all_goals first
      | assumption
      | omega
      | exact left_eq (by omega)
  have e0 : IntKind.i64.wrap (a - (f.1.length : Int)) = a - (f.1.length : Int) := by rw [wrap64 (by omega) (by omega)]
  have e1 : IntKind.i64.wrap (IntKind.i64.wrap (a - (f.1.length : Int)) - (f.2.length : Int)) = a - (f.1.length : Int) - (f.2.length : Int) := by rw [e0, wrap64 (by omega) (by omega)]
  repeat' first
    | contradiction | exact trivial
    | (conv => whnf
       first | refine Need.mk (fun h => h) ?_ | refine Need.mk rfl ?_ | refine Need.mk ⟨rfl, Nat.le_of_ble_eq_true rfl⟩ ?_ | refine Need.mk (Nat.le_of_ble_eq_true rfl) ?_ | refine Need.fin ?_ | refine Need.mk ?_ ?_ | refine Ix.strsF rfl ?_ | refine Ix.strs rfl ?_ ?_ | refine Cut.strs rfl ?_ ?_ | refine Ix.mapF (fun _ => rfl) ?_ | refine Ix.map (fun _ => rfl) ?_ ?_ | refine Cut.map (fun _ => rfl) ?_ ?_ | refine Fork.yes (by assumption) ?_ | refine Fork.no (by assumption) ?_ | refine Fork.decYes (by omega) ?_ | refine Fork.decNo (by omega) ?_ | refine Fork.dec (fun _ => ?_) (fun _ => ?_) | refine Fork.bne (fun _ => ?_) (fun _ => ?_) | refine Fork.beq (fun _ => ?_) (fun _ => ?_) | refine Fork.seq (fun _ => ?_) (fun _ => ?_) | refine Fork.sne (fun _ => ?_) (fun _ => ?_) | refine Fork.neg (fun _ => ?_) (fun _ => ?_) | refine Fork.mk (fun _ => ?_) (fun _ => ?_) | refine HAlt.mk ?_ ?_ | apply HJoin.mk3 | exact HEnd.mk rfl rfl rfl | refine HEnd.mk ?_ ?_ ?_ | refine Round.mk ?_ | refine NilQ.mk (fun b hb => ?_) | refine forceK_of ?_ | refine forceBx_of ?_ | refine unG_old ?_ | refine unG_gv ?_ | refine Lit.read rfl ?_ | refine FinVal.keep ?_ | refine FinAgg.keep ?_ | refine Final.mk rfl rfl | refine Final.mk ?_ rfl | refine Final.mk ?_ ?_ | refine FinalT.mk ?_ ?_ | refine FinalC.allA ?_)
    | refine AV.bool_congr ?_ | refine AV.int_congr ?_ | refine AV.str_congr ?_ | refine AV.list_congr ?_ | with_reducible rfl | refine fr1 ?_ | refine fr2 ?_ ?_
  all_goals first
    | assumption
    | omega
    | exact left_eq (by omega)
theorem eqPair.big (f g : VPair) (h : tPair.size f ≤ 1099511627775) : eqPair.Ret [.agg (oldL (tPair.q f)), .agg (oldL (tPair.q g))] (.val (.bool (decide (f = g)))) [] := by
  refine eqPair.of rfl ?_
  have hz := tPair_size f
  repeat' first
    | contradiction | exact trivial
    | (conv => whnf
       first | refine Need.mk (fun h => h) ?_ | refine Need.mk rfl ?_ | refine Need.mk ⟨rfl, Nat.le_of_ble_eq_true rfl⟩ ?_ | refine Need.mk (Nat.le_of_ble_eq_true rfl) ?_ | refine Need.fin ?_ | refine Need.mk ?_ ?_ | refine Ix.strsF rfl ?_ | refine Ix.strs rfl ?_ ?_ | refine Cut.strs rfl ?_ ?_ | refine Ix.mapF (fun _ => rfl) ?_ | refine Ix.map (fun _ => rfl) ?_ ?_ | refine Cut.map (fun _ => rfl) ?_ ?_ | refine Fork.yes (by assumption) ?_ | refine Fork.no (by assumption) ?_ | refine Fork.decYes (by omega) ?_ | refine Fork.decNo (by omega) ?_ | refine Fork.dec (fun _ => ?_) (fun _ => ?_) | refine Fork.bne (fun _ => ?_) (fun _ => ?_) | refine Fork.beq (fun _ => ?_) (fun _ => ?_) | refine Fork.seq (fun _ => ?_) (fun _ => ?_) | refine Fork.sne (fun _ => ?_) (fun _ => ?_) | refine Fork.neg (fun _ => ?_) (fun _ => ?_) | refine Fork.mk (fun _ => ?_) (fun _ => ?_) | refine HAlt.mk ?_ ?_ | apply HJoin.mk3 | exact HEnd.mk rfl rfl rfl | refine HEnd.mk ?_ ?_ ?_ | refine Round.mk ?_ | refine NilQ.mk (fun b hb => ?_) | refine forceK_of ?_ | refine forceBx_of ?_ | refine unG_old ?_ | refine unG_gv ?_ | refine Lit.read rfl ?_ | refine FinVal.keep ?_ | refine FinAgg.keep ?_ | refine Final.mk rfl rfl | refine Final.mk ?_ rfl | refine Final.mk ?_ ?_ | refine FinalT.mk ?_ ?_ | refine FinalC.allA ?_)
    | refine AV.bool_congr ?_ | refine AV.int_congr ?_ | refine AV.str_congr ?_ | refine AV.list_congr ?_ | with_reducible rfl | refine fr1 ?_ | refine fr2 ?_ ?_
  all_goals first
    | omega
    | (simp only [tStrs_size, tInts_size] at *; omega)
    | (obtain ⟨x0, x1⟩ := f; obtain ⟨y0, y1⟩ := g; simp_all)
theorem toPairS.ret (l : List VPair) (h : tPairs.size l ≤ 1048576) : toPairS.Ret [.list none (rows tPair l)] (.list (some 0) (rows tPair l)) [(66, 2, l.length)] := by
  refine toPairS.of rfl ?_
  rw [tPairs_sz] at h
  repeat' first
    | contradiction | exact trivial
    | (conv => whnf
       first | refine Need.mk (fun h => h) ?_ | refine Need.mk rfl ?_ | refine Need.mk ⟨rfl, Nat.le_of_ble_eq_true rfl⟩ ?_ | refine Need.mk (Nat.le_of_ble_eq_true rfl) ?_ | refine Need.fin ?_ | refine Need.mk ?_ ?_ | refine Ix.strsF rfl ?_ | refine Ix.strs rfl ?_ ?_ | refine Cut.strs rfl ?_ ?_ | refine Ix.mapF (fun _ => rfl) ?_ | refine Ix.map (fun _ => rfl) ?_ ?_ | refine Cut.map (fun _ => rfl) ?_ ?_ | refine Fork.yes (by assumption) ?_ | refine Fork.no (by assumption) ?_ | refine Fork.decYes (by omega) ?_ | refine Fork.decNo (by omega) ?_ | refine Fork.dec (fun _ => ?_) (fun _ => ?_) | refine Fork.bne (fun _ => ?_) (fun _ => ?_) | refine Fork.beq (fun _ => ?_) (fun _ => ?_) | refine Fork.seq (fun _ => ?_) (fun _ => ?_) | refine Fork.sne (fun _ => ?_) (fun _ => ?_) | refine Fork.neg (fun _ => ?_) (fun _ => ?_) | refine Fork.mk (fun _ => ?_) (fun _ => ?_) | refine HAlt.mk ?_ ?_ | apply HJoin.mk3 | exact HEnd.mk rfl rfl rfl | refine HEnd.mk ?_ ?_ ?_ | refine Round.mk ?_ | refine NilQ.mk (fun b hb => ?_) | refine forceK_of ?_ | refine forceBx_of ?_ | refine unG_old ?_ | refine unG_gv ?_ | refine Lit.read rfl ?_ | refine FinVal.keep ?_ | refine FinAgg.keep ?_ | refine Final.mk rfl rfl | refine Final.mk ?_ rfl | refine Final.mk ?_ ?_ | refine FinalT.mk ?_ ?_ | refine FinalC.allA ?_)
    | refine AV.bool_congr ?_ | refine AV.int_congr ?_ | refine AV.str_congr ?_ | refine AV.list_congr ?_ | with_reducible rfl | refine fr1 ?_ | refine fr2 ?_ ?_
  refine ALoop.mk Nat (fun i => ⟨[(0, .list none (rows tPair l)), (3, .bsl 0 l.length), (4, .val (.int .i64 i))], [.cells (.row 66 2) (part [.str [], .str []] (rows tPair l) i)], []⟩) (fun i => i ≤ l.length) (fun i => l.length - i) ⟨0, Nat.zero_le _, ?_⟩ (fun i hi => ?_)
  · repeat' first
      | exact trivial | refine Weak.mk ?_ ?_ ?_ ?_ (Or.inl (Nat.le_of_ble_eq_true rfl)) | refine Weak.mk ?_ ?_ ?_ ?_ (Or.inr ⟨(by repeat' first | exact trivial | exact Nat.le_of_ble_eq_true rfl | refine And.intro ?_ ?_), (by repeat' first | exact trivial | exact Nat.le_of_ble_eq_true rfl | refine And.intro ?_ ?_)⟩) | refine Weak.mk ?_ ?_ ?_ ?_ ?_ | refine And.intro ?_ ?_ | with_reducible rfl | exact Nat.le_of_ble_eq_true rfl | refine fr1 ?_ | refine fr2 ?_ ?_ | refine AV.int_congr ?_ | refine AV.bool_congr ?_ | refine AV.str_congr ?_ | refine AV.list_congr ?_ | refine AV.bsl_congr ?_ ?_ | (apply rfl)
    · simp
    · simp only [List.nil_append, List.length_cons, List.length_nil, List.take_succ_cons, List.take_zero]
      rw [part_made (xs := rows tPair l) (sz := 2) rfl (by decide) (by simp)]; rfl
  have hsz : ∀ c ∈ rows tPair l, c.length = 2 := oldLL_sz tPair.hq
  repeat' first
    | contradiction | exact trivial
    | (conv => whnf
       first | refine Need.mk (fun h => h) ?_ | refine Need.mk rfl ?_ | refine Need.mk ⟨rfl, Nat.le_of_ble_eq_true rfl⟩ ?_ | refine Need.mk (Nat.le_of_ble_eq_true rfl) ?_ | refine Need.fin ?_ | refine Need.mk ?_ ?_ | refine Ix.strsF rfl ?_ | refine Ix.strs rfl ?_ ?_ | refine Cut.strs rfl ?_ ?_ | refine Ix.mapF (fun _ => rfl) ?_ | refine Ix.map (fun _ => rfl) ?_ ?_ | refine Cut.map (fun _ => rfl) ?_ ?_ | refine Fork.yes (by assumption) ?_ | refine Fork.no (by assumption) ?_ | refine Fork.decYes (by omega) ?_ | refine Fork.decNo (by omega) ?_ | refine Fork.dec (fun _ => ?_) (fun _ => ?_) | refine Fork.bne (fun _ => ?_) (fun _ => ?_) | refine Fork.beq (fun _ => ?_) (fun _ => ?_) | refine Fork.seq (fun _ => ?_) (fun _ => ?_) | refine Fork.sne (fun _ => ?_) (fun _ => ?_) | refine Fork.neg (fun _ => ?_) (fun _ => ?_) | refine Fork.mk (fun _ => ?_) (fun _ => ?_) | refine HAlt.mk ?_ ?_ | apply HJoin.mk3 | exact HEnd.mk rfl rfl rfl | refine HEnd.mk ?_ ?_ ?_ | refine Round.mk ?_ | refine NilQ.mk (fun b hb => ?_) | refine forceK_of ?_ | refine forceBx_of ?_ | refine unG_old ?_ | refine unG_gv ?_ | refine Lit.read rfl ?_ | refine FinVal.keep ?_ | refine FinAgg.keep ?_ | refine Final.mk rfl rfl | refine Final.mk ?_ rfl | refine Final.mk ?_ ?_ | refine FinalT.mk ?_ ?_ | refine FinalC.allA ?_ | refine ACall.mk_Pair _ _ (toPair.ret _ ?_) (by repeat' first | exact SeesL.nil | refine SeesL.cons ?_ ?_ | exact SeesB.of0 (Sees0.val _) | exact SeesB.of0 (Sees0.str _) | exact SeesB.of0 (Sees0.olds _ _) | exact SeesB.of0 (Sees0.old _) | exact SeesB.of0 (Sees0.oldagg _) | exact SeesB.of0 Sees0.nil | exact Sees0.val _ | exact Sees0.str _ | exact Sees0.olds _ _ | exact Sees0.old _ | exact Sees0.oldagg _ | exact Sees0.nil | exact SeesB.of0 (Sees0.any _) | assumption | exact sees_gv _ _ _ (by assumption) (by first | assumption | exact BoxIn.last _ _ | exact BoxIn.more (BoxIn.last _ _) _) | refine SeesB.agg ?_ | refine Sees0.agg ?_ | exact SeesB.of0 (Sees0.clo SeesL.nil SeesL.nil) | exact Sees0.clo SeesL.nil SeesL.nil | exact SeesB.of0 (Sees0.list rfl) | exact Sees0.list rfl) ?_)
    | refine AV.bool_congr ?_ | refine AV.int_congr ?_ | refine AV.str_congr ?_ | refine AV.list_congr ?_ | with_reducible rfl | refine fr1 ?_ | refine fr2 ?_ ?_
  · rename_i h1
    rw [length_rows] at h1
    have := listSize_mem tPair (List.mem_of_getElem? (tPair_get (l := l) (i := i) (by omega)))
    rw [Int.toNat_natCast]; omega
  · rename_i h1
    rw [length_rows] at h1
    rw [part_len (sz := 2) rfl hsz (by rw [length_rows]; exact hi), Int.toNat_natCast, length_rows]
    exact ⟨rfl, by omega⟩
  · rename_i h1
    rw [length_rows] at h1
    refine ⟨i + 1, by omega, ?_, by omega⟩
    repeat' first
      | exact trivial | refine Weak.mk ?_ ?_ ?_ ?_ (Or.inl (Nat.le_of_ble_eq_true rfl)) | refine Weak.mk ?_ ?_ ?_ ?_ (Or.inr ⟨(by repeat' first | exact trivial | exact Nat.le_of_ble_eq_true rfl | refine And.intro ?_ ?_), (by repeat' first | exact trivial | exact Nat.le_of_ble_eq_true rfl | refine And.intro ?_ ?_)⟩) | refine Weak.mk ?_ ?_ ?_ ?_ ?_ | refine And.intro ?_ ?_ | with_reducible rfl | exact Nat.le_of_ble_eq_true rfl | refine fr1 ?_ | refine fr2 ?_ ?_ | refine AV.int_congr ?_ | refine AV.bool_congr ?_ | refine AV.str_congr ?_ | refine AV.list_congr ?_ | refine AV.bsl_congr ?_ ?_ | (apply rfl)
    · rw [wrap64 (by omega) (by omega)]; rfl
    · have hg : (rows tPair l)[i]? = some (oldL (tPair.q (l.getD i default))) := by rw [rows, oldLL_eq, List.getElem?_map, List.getElem?_map, tPair_get (by omega), oldL_eq]; rfl
      have := part_set (z := [.str [], .str []]) (sz := 2) rfl hsz hg
      simp only [List.set_cons_zero, List.take_succ_cons, List.take_zero, List.length_cons, List.length_nil, Int.toNat_natCast]
      exact congrArg (fun c => [ABox.cells (.row 66 2) c]) this
  · rename_i h1
    rw [length_rows] at h1
    conv => whnf
    have : i = l.length := by omega
    subst this
    have hall := part_all [.str [], .str []] (rows tPair l)
    rw [length_rows] at hall
    refine FreezeD.flat (Freeze.mk (rows tPair l) _ 66 2 rfl hall (length_rows _ _) hsz (fun c hc => ?_) ?_)
    · rw [hall, ← rowsP_tks tPair (fun _ => rfl) (fun _ => rfl)] at hc; exact tks_nr tPair l 0 c hc
    · exact Final.mk rfl rfl
theorem toPairS.own (l : List VPair) (h : tPairs.size l ≤ 1048576) : toPairS.Own [.list none (rows tPair l)] (.l 66 2 (l.map tPair.q)) :=
  Ty.ownV tPairs (x := .l 66 2 (l.map tPair.q)) rfl rfl (toPairS.ret l h)
theorem szPairS.ret (l : List VPair) (a : Int) (h0 : 0 ≤ a) (ha : a ≤ 1048576) (hb : tPairs.bd l) :
    szPairS.Ret [.list none (rows tPair l), .val (.int .i64 a)] (.val (.int .i64 (left a (tPairs.size l)))) [] := by
  refine szPairS.of rfl ?_
  obtain ⟨hl, hb⟩ := hb
  have hw : IntKind.i64.wrap (a - ((rows tPair l).length : Int)) = a - l.length := by rw [length_rows]; exact wrap64 (by omega) (by omega)
  have hz := tPairs_sz l
  repeat' first
    | contradiction | exact trivial
    | (conv => whnf
       first | refine Need.mk (fun h => h) ?_ | refine Need.mk rfl ?_ | refine Need.mk ⟨rfl, Nat.le_of_ble_eq_true rfl⟩ ?_ | refine Need.mk (Nat.le_of_ble_eq_true rfl) ?_ | refine Need.fin ?_ | refine Need.mk ?_ ?_ | refine Ix.strsF rfl ?_ | refine Ix.strs rfl ?_ ?_ | refine Cut.strs rfl ?_ ?_ | refine Ix.mapF (fun _ => rfl) ?_ | refine Ix.map (fun _ => rfl) ?_ ?_ | refine Cut.map (fun _ => rfl) ?_ ?_ | refine Fork.yes (by assumption) ?_ | refine Fork.no (by assumption) ?_ | refine Fork.decYes (by omega) ?_ | refine Fork.decNo (by omega) ?_ | refine Fork.dec (fun _ => ?_) (fun _ => ?_) | refine Fork.bne (fun _ => ?_) (fun _ => ?_) | refine Fork.beq (fun _ => ?_) (fun _ => ?_) | refine Fork.seq (fun _ => ?_) (fun _ => ?_) | refine Fork.sne (fun _ => ?_) (fun _ => ?_) | refine Fork.neg (fun _ => ?_) (fun _ => ?_) | refine Fork.mk (fun _ => ?_) (fun _ => ?_) | refine HAlt.mk ?_ ?_ | apply HJoin.mk3 | exact HEnd.mk rfl rfl rfl | refine HEnd.mk ?_ ?_ ?_ | refine Round.mk ?_ | refine NilQ.mk (fun b hb => ?_) | refine forceK_of ?_ | refine forceBx_of ?_ | refine unG_old ?_ | refine unG_gv ?_ | refine Lit.read rfl ?_ | refine FinVal.keep ?_ | refine FinAgg.keep ?_ | refine Final.mk rfl rfl | refine Final.mk ?_ rfl | refine Final.mk ?_ ?_ | refine FinalT.mk ?_ ?_ | refine FinalC.allA ?_)
    | refine AV.bool_congr ?_ | refine AV.int_congr ?_ | refine AV.str_congr ?_ | refine AV.list_congr ?_ | with_reducible rfl | refine fr1 ?_ | refine fr2 ?_ ?_
  · rename_i h
    rw [hw] at h
    rw [left, if_pos (by omega)]
  rename_i h
  rw [hw] at h
  repeat' first
    | contradiction | exact trivial
    | (conv => whnf
       first | refine Need.mk (fun h => h) ?_ | refine Need.mk rfl ?_ | refine Need.mk ⟨rfl, Nat.le_of_ble_eq_true rfl⟩ ?_ | refine Need.mk (Nat.le_of_ble_eq_true rfl) ?_ | refine Need.fin ?_ | refine Need.mk ?_ ?_ | refine Ix.strsF rfl ?_ | refine Ix.strs rfl ?_ ?_ | refine Cut.strs rfl ?_ ?_ | refine Ix.mapF (fun _ => rfl) ?_ | refine Ix.map (fun _ => rfl) ?_ ?_ | refine Cut.map (fun _ => rfl) ?_ ?_ | refine Fork.yes (by assumption) ?_ | refine Fork.no (by assumption) ?_ | refine Fork.decYes (by omega) ?_ | refine Fork.decNo (by omega) ?_ | refine Fork.dec (fun _ => ?_) (fun _ => ?_) | refine Fork.bne (fun _ => ?_) (fun _ => ?_) | refine Fork.beq (fun _ => ?_) (fun _ => ?_) | refine Fork.seq (fun _ => ?_) (fun _ => ?_) | refine Fork.sne (fun _ => ?_) (fun _ => ?_) | refine Fork.neg (fun _ => ?_) (fun _ => ?_) | refine Fork.mk (fun _ => ?_) (fun _ => ?_) | refine HAlt.mk ?_ ?_ | apply HJoin.mk3 | exact HEnd.mk rfl rfl rfl | refine HEnd.mk ?_ ?_ ?_ | refine Round.mk ?_ | refine NilQ.mk (fun b hb => ?_) | refine forceK_of ?_ | refine forceBx_of ?_ | refine unG_old ?_ | refine unG_gv ?_ | refine Lit.read rfl ?_ | refine FinVal.keep ?_ | refine FinAgg.keep ?_ | refine Final.mk rfl rfl | refine Final.mk ?_ rfl | refine Final.mk ?_ ?_ | refine FinalT.mk ?_ ?_ | refine FinalC.allA ?_)
    | refine AV.bool_congr ?_ | refine AV.int_congr ?_ | refine AV.str_congr ?_ | refine AV.list_congr ?_ | with_reducible rfl | refine fr1 ?_ | refine fr2 ?_ ?_
  refine ALoop.mk Nat (fun i => ⟨[(0, .list none (rows tPair l)), (1, .val (.int .i64 (a - l.length - listSize tPair (l.take i)))), (5, .val (.int .i64 i))], [], []⟩) (fun i => i ≤ l.length ∧ (0 : Int) ≤ a - l.length - listSize tPair (l.take i)) (fun i => l.length - i) ⟨0, ⟨Nat.zero_le _, by simp [listSize]; omega⟩, ?_⟩ (fun i hi => ?_)
  · repeat' first
      | exact trivial | refine Weak.mk ?_ ?_ ?_ ?_ (Or.inl (Nat.le_of_ble_eq_true rfl)) | refine Weak.mk ?_ ?_ ?_ ?_ (Or.inr ⟨(by repeat' first | exact trivial | exact Nat.le_of_ble_eq_true rfl | refine And.intro ?_ ?_), (by repeat' first | exact trivial | exact Nat.le_of_ble_eq_true rfl | refine And.intro ?_ ?_)⟩) | refine Weak.mk ?_ ?_ ?_ ?_ ?_ | refine And.intro ?_ ?_ | with_reducible rfl | exact Nat.le_of_ble_eq_true rfl | refine fr1 ?_ | refine fr2 ?_ ?_ | refine AV.int_congr ?_ | refine AV.bool_congr ?_ | refine AV.str_congr ?_ | refine AV.list_congr ?_ | refine AV.bsl_congr ?_ ?_ | (apply rfl)
    rw [hw]; simp [listSize]
  obtain ⟨hp1, hp2⟩ := hi
  have hle := listSize_take_le tPair l (i + 1)
  have hbi : i < l.length → tPair.bd (l.getD i default) := fun h => hb _ (List.mem_of_getElem? (tPair_get h))
  have hsz : i < l.length → listSize tPair (l.take (i + 1)) = listSize tPair (l.take i) + tPair.size (l.getD i default) := fun h => listSize_take_succ tPair (tPair_get h)
  repeat' first
    | contradiction | exact trivial
    | (conv => whnf
       first | refine Need.mk (fun h => h) ?_ | refine Need.mk rfl ?_ | refine Need.mk ⟨rfl, Nat.le_of_ble_eq_true rfl⟩ ?_ | refine Need.mk (Nat.le_of_ble_eq_true rfl) ?_ | refine Need.fin ?_ | refine Need.mk ?_ ?_ | refine Ix.strsF rfl ?_ | refine Ix.strs rfl ?_ ?_ | refine Cut.strs rfl ?_ ?_ | refine Ix.mapF (fun _ => rfl) ?_ | refine Ix.map (fun _ => rfl) ?_ ?_ | refine Cut.map (fun _ => rfl) ?_ ?_ | refine Fork.yes (by assumption) ?_ | refine Fork.no (by assumption) ?_ | refine Fork.decYes (by omega) ?_ | refine Fork.decNo (by omega) ?_ | refine Fork.dec (fun _ => ?_) (fun _ => ?_) | refine Fork.bne (fun _ => ?_) (fun _ => ?_) | refine Fork.beq (fun _ => ?_) (fun _ => ?_) | refine Fork.seq (fun _ => ?_) (fun _ => ?_) | refine Fork.sne (fun _ => ?_) (fun _ => ?_) | refine Fork.neg (fun _ => ?_) (fun _ => ?_) | refine Fork.mk (fun _ => ?_) (fun _ => ?_) | refine HAlt.mk ?_ ?_ | apply HJoin.mk3 | exact HEnd.mk rfl rfl rfl | refine HEnd.mk ?_ ?_ ?_ | refine Round.mk ?_ | refine NilQ.mk (fun b hb => ?_) | refine forceK_of ?_ | refine forceBx_of ?_ | refine unG_old ?_ | refine unG_gv ?_ | refine Lit.read rfl ?_ | refine FinVal.keep ?_ | refine FinAgg.keep ?_ | refine Final.mk rfl rfl | refine Final.mk ?_ rfl | refine Final.mk ?_ ?_ | refine FinalT.mk ?_ ?_ | refine FinalC.allA ?_ | refine ACall.scalA _ _ (szPair.ret _ _ ?_ ?_ ?_) rfl ?_ | refine AQCall.mkA _ _ (fun hg => szPair.ret _ _ ?_ ?_ ?_) rfl ?_)
    | refine AV.bool_congr ?_ | refine AV.int_congr ?_ | refine AV.str_congr ?_ | refine AV.list_congr ?_ | with_reducible rfl | refine fr1 ?_ | refine fr2 ?_ ?_
  · exact hp2
  · omega
  · rename_i h1
    rw [length_rows] at h1
    rw [Int.toNat_natCast]; exact hbi (by omega)
  · rename_i h1 h2
    rw [length_rows] at h1
    rw [Int.toNat_natCast] at h2
    have := hsz (by omega)
    unfold left at h2 ⊢
    split at h2
    · rw [if_pos (by omega)]
    · omega
  · rename_i h1 h2
    rw [length_rows] at h1
    rw [Int.toNat_natCast] at h2
    have := hsz (by omega)
    have e : left (a - ↑l.length - ↑(listSize tPair (l.take i))) (tPair.size (l.getD i default)) = a - ↑l.length - ↑(listSize tPair (l.take (i + 1))) := by
      unfold left at h2 ⊢
      split at h2
      · omega
      · rw [if_neg ‹_›]; omega
    refine ⟨i + 1, ⟨by omega, ?_⟩, ?_, by omega⟩
    · rw [← e]; omega
    · repeat' first
        | exact trivial | refine Weak.mk ?_ ?_ ?_ ?_ (Or.inl (Nat.le_of_ble_eq_true rfl)) | refine Weak.mk ?_ ?_ ?_ ?_ (Or.inr ⟨(by repeat' first | exact trivial | exact Nat.le_of_ble_eq_true rfl | refine And.intro ?_ ?_), (by repeat' first | exact trivial | exact Nat.le_of_ble_eq_true rfl | refine And.intro ?_ ?_)⟩) | refine Weak.mk ?_ ?_ ?_ ?_ ?_ | refine And.intro ?_ ?_ | with_reducible rfl | exact Nat.le_of_ble_eq_true rfl | refine fr1 ?_ | refine fr2 ?_ ?_ | refine AV.int_congr ?_ | refine AV.bool_congr ?_ | refine AV.str_congr ?_ | refine AV.list_congr ?_ | refine AV.bsl_congr ?_ ?_ | (apply rfl)
      · rw [Int.toNat_natCast]; exact e
      · rw [wrap64 (by omega) (by omega)]; rfl
  · rename_i h1
    rw [length_rows] at h1
    rw [List.take_of_length_le (by omega)] at hp2 ⊢
    rw [left, if_neg (by omega)]; omega
theorem eqPairS.big (l m : List VPair) (h : tPairs.size l ≤ 1099511627775) : eqPairS.Ret [.list none (rows tPair l), .list none (rows tPair m)] (.val (.bool (decide (l = m)))) [] := by
  refine eqPairS.of rfl ?_
  rw [tPairs_sz] at h
  repeat' first
    | contradiction | exact trivial
    | (conv => whnf
       first | refine Need.mk (fun h => h) ?_ | refine Need.mk rfl ?_ | refine Need.mk ⟨rfl, Nat.le_of_ble_eq_true rfl⟩ ?_ | refine Need.mk (Nat.le_of_ble_eq_true rfl) ?_ | refine Need.fin ?_ | refine Need.mk ?_ ?_ | refine Ix.strsF rfl ?_ | refine Ix.strs rfl ?_ ?_ | refine Cut.strs rfl ?_ ?_ | refine Ix.mapF (fun _ => rfl) ?_ | refine Ix.map (fun _ => rfl) ?_ ?_ | refine Cut.map (fun _ => rfl) ?_ ?_ | refine Fork.yes (by assumption) ?_ | refine Fork.no (by assumption) ?_ | refine Fork.decYes (by omega) ?_ | refine Fork.decNo (by omega) ?_ | refine Fork.dec (fun _ => ?_) (fun _ => ?_) | refine Fork.bne (fun _ => ?_) (fun _ => ?_) | refine Fork.beq (fun _ => ?_) (fun _ => ?_) | refine Fork.seq (fun _ => ?_) (fun _ => ?_) | refine Fork.sne (fun _ => ?_) (fun _ => ?_) | refine Fork.neg (fun _ => ?_) (fun _ => ?_) | refine Fork.mk (fun _ => ?_) (fun _ => ?_) | refine HAlt.mk ?_ ?_ | apply HJoin.mk3 | exact HEnd.mk rfl rfl rfl | refine HEnd.mk ?_ ?_ ?_ | refine Round.mk ?_ | refine NilQ.mk (fun b hb => ?_) | refine forceK_of ?_ | refine forceBx_of ?_ | refine unG_old ?_ | refine unG_gv ?_ | refine Lit.read rfl ?_ | refine FinVal.keep ?_ | refine FinAgg.keep ?_ | refine Final.mk rfl rfl | refine Final.mk ?_ rfl | refine Final.mk ?_ ?_ | refine FinalT.mk ?_ ?_ | refine FinalC.allA ?_)
    | refine AV.bool_congr ?_ | refine AV.int_congr ?_ | refine AV.str_congr ?_ | refine AV.list_congr ?_ | with_reducible rfl | refine fr1 ?_ | refine fr2 ?_ ?_
  · rename_i h
    rw [length_rows, length_rows] at h
    have h3 : ¬ l = m := fun e => h (by rw [e])
    simp [h3]
  rename_i h
  rw [length_rows, length_rows] at h
  have h : l.length = m.length := by omega
  repeat' first
    | contradiction | exact trivial
    | (conv => whnf
       first | refine Need.mk (fun h => h) ?_ | refine Need.mk rfl ?_ | refine Need.mk ⟨rfl, Nat.le_of_ble_eq_true rfl⟩ ?_ | refine Need.mk (Nat.le_of_ble_eq_true rfl) ?_ | refine Need.fin ?_ | refine Need.mk ?_ ?_ | refine Ix.strsF rfl ?_ | refine Ix.strs rfl ?_ ?_ | refine Cut.strs rfl ?_ ?_ | refine Ix.mapF (fun _ => rfl) ?_ | refine Ix.map (fun _ => rfl) ?_ ?_ | refine Cut.map (fun _ => rfl) ?_ ?_ | refine Fork.yes (by assumption) ?_ | refine Fork.no (by assumption) ?_ | refine Fork.decYes (by omega) ?_ | refine Fork.decNo (by omega) ?_ | refine Fork.dec (fun _ => ?_) (fun _ => ?_) | refine Fork.bne (fun _ => ?_) (fun _ => ?_) | refine Fork.beq (fun _ => ?_) (fun _ => ?_) | refine Fork.seq (fun _ => ?_) (fun _ => ?_) | refine Fork.sne (fun _ => ?_) (fun _ => ?_) | refine Fork.neg (fun _ => ?_) (fun _ => ?_) | refine Fork.mk (fun _ => ?_) (fun _ => ?_) | refine HAlt.mk ?_ ?_ | apply HJoin.mk3 | exact HEnd.mk rfl rfl rfl | refine HEnd.mk ?_ ?_ ?_ | refine Round.mk ?_ | refine NilQ.mk (fun b hb => ?_) | refine forceK_of ?_ | refine forceBx_of ?_ | refine unG_old ?_ | refine unG_gv ?_ | refine Lit.read rfl ?_ | refine FinVal.keep ?_ | refine FinAgg.keep ?_ | refine Final.mk rfl rfl | refine Final.mk ?_ rfl | refine Final.mk ?_ ?_ | refine FinalT.mk ?_ ?_ | refine FinalC.allA ?_)
    | refine AV.bool_congr ?_ | refine AV.int_congr ?_ | refine AV.str_congr ?_ | refine AV.list_congr ?_ | with_reducible rfl | refine fr1 ?_ | refine fr2 ?_ ?_
  refine ALoop.mk Nat (fun i => ⟨[(0, .list none (rows tPair l)), (1, .list none (rows tPair m)), (5, .val (.int .i64 i))], [], []⟩) (fun i => i ≤ l.length ∧ l.take i = m.take i) (fun i => l.length - i) ⟨0, ⟨Nat.zero_le _, rfl⟩, ?_⟩ (fun i hi => ?_)
  · repeat' first
      | exact trivial | refine Weak.mk ?_ ?_ ?_ ?_ (Or.inl (Nat.le_of_ble_eq_true rfl)) | refine Weak.mk ?_ ?_ ?_ ?_ (Or.inr ⟨(by repeat' first | exact trivial | exact Nat.le_of_ble_eq_true rfl | refine And.intro ?_ ?_), (by repeat' first | exact trivial | exact Nat.le_of_ble_eq_true rfl | refine And.intro ?_ ?_)⟩) | refine Weak.mk ?_ ?_ ?_ ?_ ?_ | refine And.intro ?_ ?_ | with_reducible rfl | exact Nat.le_of_ble_eq_true rfl | refine fr1 ?_ | refine fr2 ?_ ?_ | refine AV.int_congr ?_ | refine AV.bool_congr ?_ | refine AV.str_congr ?_ | refine AV.list_congr ?_ | refine AV.bsl_congr ?_ ?_ | (apply rfl)
  repeat' first
    | contradiction | exact trivial
    | (conv => whnf
       first | refine Need.mk (fun h => h) ?_ | refine Need.mk rfl ?_ | refine Need.mk ⟨rfl, Nat.le_of_ble_eq_true rfl⟩ ?_ | refine Need.mk (Nat.le_of_ble_eq_true rfl) ?_ | refine Need.fin ?_ | refine Need.mk ?_ ?_ | refine Ix.strsF rfl ?_ | refine Ix.strs rfl ?_ ?_ | refine Cut.strs rfl ?_ ?_ | refine Ix.mapF (fun _ => rfl) ?_ | refine Ix.map (fun _ => rfl) ?_ ?_ | refine Cut.map (fun _ => rfl) ?_ ?_ | refine Fork.yes (by assumption) ?_ | refine Fork.no (by assumption) ?_ | refine Fork.decYes (by omega) ?_ | refine Fork.decNo (by omega) ?_ | refine Fork.dec (fun _ => ?_) (fun _ => ?_) | refine Fork.bne (fun _ => ?_) (fun _ => ?_) | refine Fork.beq (fun _ => ?_) (fun _ => ?_) | refine Fork.seq (fun _ => ?_) (fun _ => ?_) | refine Fork.sne (fun _ => ?_) (fun _ => ?_) | refine Fork.neg (fun _ => ?_) (fun _ => ?_) | refine Fork.mk (fun _ => ?_) (fun _ => ?_) | refine HAlt.mk ?_ ?_ | apply HJoin.mk3 | exact HEnd.mk rfl rfl rfl | refine HEnd.mk ?_ ?_ ?_ | refine Round.mk ?_ | refine NilQ.mk (fun b hb => ?_) | refine forceK_of ?_ | refine forceBx_of ?_ | refine unG_old ?_ | refine unG_gv ?_ | refine Lit.read rfl ?_ | refine FinVal.keep ?_ | refine FinAgg.keep ?_ | refine Final.mk rfl rfl | refine Final.mk ?_ rfl | refine Final.mk ?_ ?_ | refine FinalT.mk ?_ ?_ | refine FinalC.allA ?_ | refine ACall.scalA _ _ (eqPair.big _ _ ?_) rfl ?_ | refine AQCall.mkA _ _ (fun hg => eqPair.big _ _ ?_) rfl ?_)
    | refine AV.bool_congr ?_ | refine AV.int_congr ?_ | refine AV.str_congr ?_ | refine AV.list_congr ?_ | with_reducible rfl | refine fr1 ?_ | refine fr2 ?_ ?_
  · rename_i h1
    rw [length_rows] at h1
    have := listSize_mem tPair (List.mem_of_getElem? (tPair_get (l := l) (i := i) (by omega)))
    rw [Int.toNat_natCast]; omega
  · rename_i h1 h2
    have h3 : ¬ l = m := fun e => of_decide_eq_false h2 (by rw [e])
    simp [h3]
  · rename_i h1 h2
    rw [length_rows] at h1
    rw [Int.toNat_natCast] at h2
    refine ⟨i + 1, ⟨by omega, ?_⟩, ?_, by omega⟩
    · rw [take_succ' default (by omega), take_succ' (l := m) default (by omega), hi.2, of_decide_eq_true h2]
    · repeat' first
        | exact trivial | refine Weak.mk ?_ ?_ ?_ ?_ (Or.inl (Nat.le_of_ble_eq_true rfl)) | refine Weak.mk ?_ ?_ ?_ ?_ (Or.inr ⟨(by repeat' first | exact trivial | exact Nat.le_of_ble_eq_true rfl | refine And.intro ?_ ?_), (by repeat' first | exact trivial | exact Nat.le_of_ble_eq_true rfl | refine And.intro ?_ ?_)⟩) | refine Weak.mk ?_ ?_ ?_ ?_ ?_ | refine And.intro ?_ ?_ | with_reducible rfl | exact Nat.le_of_ble_eq_true rfl | refine fr1 ?_ | refine fr2 ?_ ?_ | refine AV.int_congr ?_ | refine AV.bool_congr ?_ | refine AV.str_congr ?_ | refine AV.list_congr ?_ | refine AV.bsl_congr ?_ ?_ | (apply rfl)
      rw [wrap64 (by omega) (by omega)]; rfl
  · rename_i h1
    rw [length_rows] at h1
    have h2 := hi.2
    rw [List.take_of_length_le (by omega), List.take_of_length_le (by omega)] at h2
    simp [h2]
theorem markPairS.tn (l : List VPair) (k : Nat) (hs : tPairs.size l ≤ 1099511627775) (hk : k + cn (.l 66 2 (l.map tPair.q)) ≤ 1099511627775) :
    markPairS.Turn (gb (.l 66 2 (l.map tPair.q)) 0) [gv (.l 66 2 (l.map tPair.q)) 0, .val (.int .i64 k)] (.val (.int .i64 ((k + cn (.l 66 2 (l.map tPair.q)) : Nat)))) (gb (mk (.l 66 2 (l.map tPair.q)) k) 0) := by
  refine markPairS.ofT rfl rfl (by rw [length_gb, nb_mk]) ?_
  obtain ⟨cs, hcs⟩ : ∃ cs, cs = (l.map tPair.q).flatten := ⟨_, rfl⟩
  have hlen : cs.length = l.length * 2 := by rw [hcs]; exact flat_len _ 2 tPair.hq l
  have hc0 : ∀ i, i < l.length → cs[i * 2 + 0]? = some (.s (l.getD i default).1) := fun i hi => by rw [hcs]; exact cell_at tPair.q 2 tPair.hq hi rfl
  have hc1 : ∀ i, i < l.length → cs[i * 2 + 1]? = some (.s (l.getD i default).2) := fun i hi => by rw [hcs]; exact cell_at tPair.q 2 tPair.hq hi rfl
  rw [gb_mk_l0, gb_l0, cn_l, gv, List.length_map, ← hcs]
  rw [cn_l, ← hcs] at hk
  clear hcs
  repeat' first
    | contradiction | exact trivial
    | (conv => whnf
       first | refine Need.mk (fun h => h) ?_ | refine Need.mk rfl ?_ | refine Need.mk ⟨rfl, Nat.le_of_ble_eq_true rfl⟩ ?_ | refine Need.mk (Nat.le_of_ble_eq_true rfl) ?_ | refine Need.fin ?_ | refine Need.mk ⟨rfl, by simp only [length_setAt, List.length_set, length_gvL, length_st, Int.toNat_natCast]; omega⟩ ?_ | refine Need.mk ?_ ?_ | refine Ix.strsF rfl ?_ | refine Ix.strs rfl ?_ ?_ | refine Cut.strs rfl ?_ ?_ | refine Ix.mapF (fun _ => rfl) ?_ | refine Ix.map (fun _ => rfl) ?_ ?_ | refine Cut.map (fun _ => rfl) ?_ ?_ | refine Fork.yes (by assumption) ?_ | refine Fork.no (by assumption) ?_ | refine Fork.decYes (by omega) ?_ | refine Fork.decNo (by omega) ?_ | refine Fork.dec (fun _ => ?_) (fun _ => ?_) | refine Fork.bne (fun _ => ?_) (fun _ => ?_) | refine Fork.beq (fun _ => ?_) (fun _ => ?_) | refine Fork.seq (fun _ => ?_) (fun _ => ?_) | refine Fork.sne (fun _ => ?_) (fun _ => ?_) | refine Fork.neg (fun _ => ?_) (fun _ => ?_) | refine Fork.mk (fun _ => ?_) (fun _ => ?_) | refine HAlt.mk ?_ ?_ | apply HJoin.mk3 | exact HEnd.mk rfl rfl rfl | refine HEnd.mk ?_ ?_ ?_ | refine Round.mk ?_ | refine NilQ.mk (fun b hb => ?_) | refine forceK_of ?_ | refine forceBx_of ?_ | refine unG_old ?_ | refine unG_gv ?_ | refine Lit.read rfl ?_ | refine FinVal.keep ?_ | refine FinAgg.keep ?_ | refine Final.mk rfl rfl | refine Final.mk ?_ rfl | refine Final.mk ?_ ?_ | refine FinalT.mk ?_ ?_ | refine FinalC.allA ?_)
    | refine AV.bool_congr ?_ | refine AV.int_congr ?_ | refine AV.str_congr ?_ | refine AV.list_congr ?_ | with_reducible rfl | refine fr1 ?_ | refine fr2 ?_ ?_
  refine ALoop.mk Nat (fun i => ⟨[(0, .bsl 0 l.length), (1, .val (.int .i64 ((k + cnC (cs.take (i * 2)) : Nat)))), (5, .val (.int .i64 i))], .cells (.row 66 2) (gvL (st cs k (i * 2)) 1) :: gbL (st cs k (i * 2)) 1, []⟩) (fun i => i ≤ l.length) (fun i => l.length - i) ⟨0, Nat.zero_le _, ?_⟩ (fun i hi => ?_)
  · refine weak_st ⟨rfl, ?_, rfl, trivial⟩ ?_ ?_ rfl ?_
    · rw [Nat.zero_mul]; rfl
    · rw [Nat.zero_mul, st_zero]
    · rw [Nat.zero_mul, st_zero]
    · rw [Nat.zero_mul, st_zero, List.length_cons]; exact Nat.le_refl _
  have hle := cn_take_le cs (i * 2)
  rw [tPairs_sz] at hs
  rcases Nat.lt_or_ge i l.length with hlt | hge
  rotate_left
  · have hiw : i * 2 = cs.length := by omega
    repeat' first
      | contradiction | exact trivial
      | (conv => whnf
         first | refine Need.mk (fun h => h) ?_ | refine Need.mk rfl ?_ | refine Need.mk ⟨rfl, Nat.le_of_ble_eq_true rfl⟩ ?_ | refine Need.mk (Nat.le_of_ble_eq_true rfl) ?_ | refine Need.fin ?_ | refine Need.mk ⟨rfl, by simp only [length_setAt, List.length_set, length_gvL, length_st, Int.toNat_natCast]; omega⟩ ?_ | refine Need.mk ?_ ?_ | refine Ix.strsF rfl ?_ | refine Ix.strs rfl ?_ ?_ | refine Cut.strs rfl ?_ ?_ | refine Ix.mapF (fun _ => rfl) ?_ | refine Ix.map (fun _ => rfl) ?_ ?_ | refine Cut.map (fun _ => rfl) ?_ ?_ | refine Fork.yes (by assumption) ?_ | refine Fork.no (by assumption) ?_ | refine Fork.decYes (by omega) ?_ | refine Fork.decNo (by omega) ?_ | refine Fork.dec (fun _ => ?_) (fun _ => ?_) | refine Fork.bne (fun _ => ?_) (fun _ => ?_) | refine Fork.beq (fun _ => ?_) (fun _ => ?_) | refine Fork.seq (fun _ => ?_) (fun _ => ?_) | refine Fork.sne (fun _ => ?_) (fun _ => ?_) | refine Fork.neg (fun _ => ?_) (fun _ => ?_) | refine Fork.mk (fun _ => ?_) (fun _ => ?_) | refine HAlt.mk ?_ ?_ | apply HJoin.mk3 | exact HEnd.mk rfl rfl rfl | refine HEnd.mk ?_ ?_ ?_ | refine Round.mk ?_ | refine NilQ.mk (fun b hb => ?_) | refine forceK_of ?_ | refine forceBx_of ?_ | refine unG_old ?_ | refine unG_gv ?_ | refine Lit.read rfl ?_ | refine FinVal.keep ?_ | refine FinAgg.keep ?_ | refine Final.mk rfl rfl | refine Final.mk ?_ rfl | refine Final.mk ?_ ?_ | refine FinalT.mk ?_ ?_ | refine FinalC.allA ?_)
      | refine AV.bool_congr ?_ | refine AV.int_congr ?_ | refine AV.str_congr ?_ | refine AV.list_congr ?_ | with_reducible rfl | refine fr1 ?_ | refine fr2 ?_ ?_
    · rw [hiw, List.take_length]
    · rw [hiw, st_all cs k rfl]; exact take_all (by rw [List.length_cons, List.length_cons, length_gbL, length_gbL, nbL_mkC]; exact Nat.le_refl _)
  have hi1 : (i + 1) * 2 = i * 2 + 2 := by omega
  have hsz := tPair_le hlt
  have hz6 := tPair_size (l.getD i default)
  repeat' first
    | contradiction | exact trivial
    | (conv => whnf
       first | refine Need.mk (fun h => h) ?_ | refine Need.mk rfl ?_ | refine Need.mk ⟨rfl, Nat.le_of_ble_eq_true rfl⟩ ?_ | refine Need.mk (Nat.le_of_ble_eq_true rfl) ?_ | refine Need.fin ?_ | refine Need.mk ⟨rfl, by simp only [length_setAt, List.length_set, length_gvL, length_st, Int.toNat_natCast]; omega⟩ ?_ | refine Need.mk ?_ ?_ | refine Ix.strsF rfl ?_ | refine Ix.strs rfl ?_ ?_ | refine Cut.strs rfl ?_ ?_ | refine Ix.mapF (fun _ => rfl) ?_ | refine Ix.map (fun _ => rfl) ?_ ?_ | refine Cut.map (fun _ => rfl) ?_ ?_ | refine Fork.yes (by assumption) ?_ | refine Fork.no (by assumption) ?_ | refine Fork.decYes (by omega) ?_ | refine Fork.decNo (by omega) ?_ | refine Fork.dec (fun _ => ?_) (fun _ => ?_) | refine Fork.bne (fun _ => ?_) (fun _ => ?_) | refine Fork.beq (fun _ => ?_) (fun _ => ?_) | refine Fork.seq (fun _ => ?_) (fun _ => ?_) | refine Fork.sne (fun _ => ?_) (fun _ => ?_) | refine Fork.neg (fun _ => ?_) (fun _ => ?_) | refine Fork.mk (fun _ => ?_) (fun _ => ?_) | refine HAlt.mk ?_ ?_ | apply HJoin.mk3 | exact HEnd.mk rfl rfl rfl | refine HEnd.mk ?_ ?_ ?_ | refine Round.mk ?_ | refine NilQ.mk (fun b hb => ?_) | refine forceK_of ?_ | refine forceBx_of ?_ | refine unG_old ?_ | refine unG_gv ?_ | refine Lit.read rfl ?_ | refine FinVal.keep ?_ | refine FinAgg.keep ?_ | refine Final.mk rfl rfl | refine Final.mk ?_ rfl | refine Final.mk ?_ ?_ | refine FinalT.mk ?_ ?_ | refine FinalC.allA ?_)
    | refine AV.bool_congr ?_ | refine AV.int_congr ?_ | refine AV.str_congr ?_ | refine AV.list_congr ?_ | with_reducible rfl | refine fr1 ?_ | refine fr2 ?_ ?_
  have l0 := cn_take_le cs (i * 2 + 1)
  have n0 : cnC (cs.take (i * 2 + 1)) = cnC (cs.take (i * 2)) + 1 := cn_succ (hc0 i hlt)
  have w0 : IntKind.i64.wrap (((k + cnC (cs.take (i * 2)) : Nat) : Int) + 1) = ((k + cnC (cs.take (i * 2 + 1)) : Nat) : Int) := by rw [wrap64 (by omega) (by omega)]; omega
  have b0 : gbL (st cs k (i * 2 + 1)) 1 = gbL (st cs k (i * 2)) 1 := gbL_st k 1 (hc0 i hlt) rfl
  have g0 : gvL (st cs k (i * 2 + 1)) 1 = (gvL (st cs k (i * 2)) 1).set (i * 2) (.str (markF (k + cnC (cs.take (i * 2))))) := gvL_st k 1 (hc0 i hlt)
  conv => whnf
  refine ACall.scal [.val (.int .i64 ((k + cnC (cs.take (i * 2)) : Nat)))] _ (markText.ret (k + cnC (cs.take (i * 2))) (by omega)) rfl (.cons (SeesB.of0 (by exact Sees0.val _)) .nil) ?_
  repeat' first
    | contradiction | exact trivial
    | (conv => whnf
       first | refine Need.mk (fun h => h) ?_ | refine Need.mk rfl ?_ | refine Need.mk ⟨rfl, Nat.le_of_ble_eq_true rfl⟩ ?_ | refine Need.mk (Nat.le_of_ble_eq_true rfl) ?_ | refine Need.fin ?_ | refine Need.mk ⟨rfl, by simp only [length_setAt, List.length_set, length_gvL, length_st, Int.toNat_natCast]; omega⟩ ?_ | refine Need.mk ?_ ?_ | refine Ix.strsF rfl ?_ | refine Ix.strs rfl ?_ ?_ | refine Cut.strs rfl ?_ ?_ | refine Ix.mapF (fun _ => rfl) ?_ | refine Ix.map (fun _ => rfl) ?_ ?_ | refine Cut.map (fun _ => rfl) ?_ ?_ | refine Fork.yes (by assumption) ?_ | refine Fork.no (by assumption) ?_ | refine Fork.decYes (by omega) ?_ | refine Fork.decNo (by omega) ?_ | refine Fork.dec (fun _ => ?_) (fun _ => ?_) | refine Fork.bne (fun _ => ?_) (fun _ => ?_) | refine Fork.beq (fun _ => ?_) (fun _ => ?_) | refine Fork.seq (fun _ => ?_) (fun _ => ?_) | refine Fork.sne (fun _ => ?_) (fun _ => ?_) | refine Fork.neg (fun _ => ?_) (fun _ => ?_) | refine Fork.mk (fun _ => ?_) (fun _ => ?_) | refine HAlt.mk ?_ ?_ | apply HJoin.mk3 | exact HEnd.mk rfl rfl rfl | refine HEnd.mk ?_ ?_ ?_ | refine Round.mk ?_ | refine NilQ.mk (fun b hb => ?_) | refine forceK_of ?_ | refine forceBx_of ?_ | refine unG_old ?_ | refine unG_gv ?_ | refine Lit.read rfl ?_ | refine FinVal.keep ?_ | refine FinAgg.keep ?_ | refine Final.mk rfl rfl | refine Final.mk ?_ rfl | refine Final.mk ?_ ?_ | refine FinalT.mk ?_ ?_ | refine FinalC.allA ?_)
    | refine AV.bool_congr ?_ | refine AV.int_congr ?_ | refine AV.str_congr ?_ | refine AV.list_congr ?_ | with_reducible rfl | refine fr1 ?_ | refine fr2 ?_ ?_
  have l1 := cn_take_le cs (i * 2 + 2)
  have n1 : cnC (cs.take (i * 2 + 2)) = cnC (cs.take (i * 2 + 1)) + 1 := cn_succ (hc1 i hlt)
  have w1 : IntKind.i64.wrap (IntKind.i64.wrap (((k + cnC (cs.take (i * 2)) : Nat) : Int) + 1) + 1) = ((k + cnC (cs.take (i * 2 + 2)) : Nat) : Int) := by rw [w0, wrap64 (by omega) (by omega)]; omega
  have b1 : gbL (st cs k (i * 2 + 2)) 1 = gbL (st cs k (i * 2 + 1)) 1 := gbL_st k 1 (hc1 i hlt) rfl
  have g1 : gvL (st cs k (i * 2 + 2)) 1 = (gvL (st cs k (i * 2 + 1)) 1).set (i * 2 + 1) (.str (markF (k + cnC (cs.take (i * 2 + 1))))) := gvL_st k 1 (hc1 i hlt)
  conv => whnf
  refine ACall.scal [.val (.int .i64 ((k + cnC (cs.take (i * 2 + 1)) : Nat)))] _ (markText.ret (k + cnC (cs.take (i * 2 + 1))) (by omega)) rfl (.cons (SeesB.of0 (by rw [w0]; exact Sees0.val _)) .nil) ?_
  repeat' first
    | contradiction | exact trivial
    | (conv => whnf
       first | refine Need.mk (fun h => h) ?_ | refine Need.mk rfl ?_ | refine Need.mk ⟨rfl, Nat.le_of_ble_eq_true rfl⟩ ?_ | refine Need.mk (Nat.le_of_ble_eq_true rfl) ?_ | refine Need.fin ?_ | refine Need.mk ⟨rfl, by simp only [length_setAt, List.length_set, length_gvL, length_st, Int.toNat_natCast]; omega⟩ ?_ | refine Need.mk ?_ ?_ | refine Ix.strsF rfl ?_ | refine Ix.strs rfl ?_ ?_ | refine Cut.strs rfl ?_ ?_ | refine Ix.mapF (fun _ => rfl) ?_ | refine Ix.map (fun _ => rfl) ?_ ?_ | refine Cut.map (fun _ => rfl) ?_ ?_ | refine Fork.yes (by assumption) ?_ | refine Fork.no (by assumption) ?_ | refine Fork.decYes (by omega) ?_ | refine Fork.decNo (by omega) ?_ | refine Fork.dec (fun _ => ?_) (fun _ => ?_) | refine Fork.bne (fun _ => ?_) (fun _ => ?_) | refine Fork.beq (fun _ => ?_) (fun _ => ?_) | refine Fork.seq (fun _ => ?_) (fun _ => ?_) | refine Fork.sne (fun _ => ?_) (fun _ => ?_) | refine Fork.neg (fun _ => ?_) (fun _ => ?_) | refine Fork.mk (fun _ => ?_) (fun _ => ?_) | refine HAlt.mk ?_ ?_ | apply HJoin.mk3 | exact HEnd.mk rfl rfl rfl | refine HEnd.mk ?_ ?_ ?_ | refine Round.mk ?_ | refine NilQ.mk (fun b hb => ?_) | refine forceK_of ?_ | refine forceBx_of ?_ | refine unG_old ?_ | refine unG_gv ?_ | refine Lit.read rfl ?_ | refine FinVal.keep ?_ | refine FinAgg.keep ?_ | refine Final.mk rfl rfl | refine Final.mk ?_ rfl | refine Final.mk ?_ ?_ | refine FinalT.mk ?_ ?_ | refine FinalC.allA ?_)
    | refine AV.bool_congr ?_ | refine AV.int_congr ?_ | refine AV.str_congr ?_ | refine AV.list_congr ?_ | with_reducible rfl | refine fr1 ?_ | refine fr2 ?_ ?_
  refine ⟨i + 1, by omega, weak_st ⟨rfl, AV.int_congr ?_, AV.int_congr ?_, trivial⟩ (congrArg (ABox.cells (.row 66 2)) ?_) ?_ rfl ?_, by omega⟩
  · rw [hi1]; exact w1
  · rw [wrap64 (by omega) (by omega)]; rfl
  · rw [hi1, g1, g0]
    try rfl
  · rw [hi1, b1, b0]
  · simp only [hi1, List.length_cons, length_gbL, nbL_st, Nat.le_refl]
end Go.Proofs.Ytlmlfkjdgnpmjaa
namespace Go.Proofs.Ytlmlfkjdgnpmjaa
open Abs
theorem tFact_size (a : Fct) : tFct.size a = a.1.length + tStrs.size a.2 := rfl
theorem tFct_cn : CnB tFct 2 := CnB.pair CnB.str (CnB.plain CnB.str _ _ _)
theorem tFct_cnA (f : Fct) : cn (.a (tFct.q f)) ≤ cnC (tFct.q f) := by
  show 0 + (cn (.l 9 1 (f.2.map Ty.str.q)) + (0)) ≤ 1 + (cn (.l 9 1 (f.2.map Ty.str.q)) + (0))
  omega
theorem eqFact.big (f g : Fct) (h : tFct.size f ≤ 1099511627775) : eqFact.Ret [.agg (oldL (tFct.q f)), .agg (oldL (tFct.q g))] (.val (.bool (decide (f = g)))) [] := by
  refine eqFact.of rfl ?_
  have hz := tFact_size f
  repeat' first
    | contradiction | exact trivial
    | (conv => whnf
       first | refine Need.mk (fun h => h) ?_ | refine Need.mk rfl ?_ | refine Need.mk ⟨rfl, Nat.le_of_ble_eq_true rfl⟩ ?_ | refine Need.mk (Nat.le_of_ble_eq_true rfl) ?_ | refine Need.fin ?_ | refine Need.mk ?_ ?_ | refine Ix.strsF rfl ?_ | refine Ix.strs rfl ?_ ?_ | refine Cut.strs rfl ?_ ?_ | refine Ix.mapF (fun _ => rfl) ?_ | refine Ix.map (fun _ => rfl) ?_ ?_ | refine Cut.map (fun _ => rfl) ?_ ?_ | refine Fork.yes (by assumption) ?_ | refine Fork.no (by assumption) ?_ | refine Fork.decYes (by omega) ?_ | refine Fork.decNo (by omega) ?_ | refine Fork.dec (fun _ => ?_) (fun _ => ?_) | refine Fork.bne (fun _ => ?_) (fun _ => ?_) | refine Fork.beq (fun _ => ?_) (fun _ => ?_) | refine Fork.seq (fun _ => ?_) (fun _ => ?_) | refine Fork.sne (fun _ => ?_) (fun _ => ?_) | refine Fork.neg (fun _ => ?_) (fun _ => ?_) | refine Fork.mk (fun _ => ?_) (fun _ => ?_) | refine HAlt.mk ?_ ?_ | apply HJoin.mk3 | exact HEnd.mk rfl rfl rfl | refine HEnd.mk ?_ ?_ ?_ | refine Round.mk ?_ | refine NilQ.mk (fun b hb => ?_) | refine forceK_of ?_ | refine forceBx_of ?_ | refine unG_old ?_ | refine unG_gv ?_ | refine Lit.read rfl ?_ | refine FinVal.keep ?_ | refine FinAgg.keep ?_ | refine Final.mk rfl rfl | refine Final.mk ?_ rfl | refine Final.mk ?_ ?_ | refine FinalT.mk ?_ ?_ | refine FinalC.allA ?_ | refine ACall.scalA _ _ (eqStringS.big _ _ ?_) rfl ?_ | refine AQCall.mkA _ _ (fun hg => eqStringS.big _ _ ?_) rfl ?_)
    | refine AV.bool_congr ?_ | refine AV.int_congr ?_ | refine AV.str_congr ?_ | refine AV.list_congr ?_ | with_reducible rfl | refine fr1 ?_ | refine fr2 ?_ ?_
  all_goals first
    | omega
    | (simp only [tStrs_size, tInts_size] at *; omega)
    | (obtain ⟨x0, x1⟩ := f; obtain ⟨y0, y1⟩ := g; simp_all)
theorem markFact.tn (f : Fct) (k : Nat) (hs : tFct.size f ≤ 1099511627775) (hk : k + cn (.a (tFct.q f)) ≤ 1099511627775) :
    markFact.Turn (gb (.a (tFct.q f)) 0) [gv (.a (tFct.q f)) 0, .val (.int .i64 k)] (.val (.int .i64 ((k + cn (.a (tFct.q f)) : Nat)))) (gb (mk (.a (tFct.q f)) k) 0) := by
  refine markFact.ofT rfl rfl (by rw [length_gb, nb_mk]) ?_
  have hz1 := tFact_size f
  obtain ⟨cs, hcs⟩ : ∃ cs : List Tr, cs = [.s f.1, .l 9 1 (f.2.map Ty.str.q)] := ⟨_, rfl⟩
  have hun : tFct.q f = unA cs := by rw [hcs]; rfl
  have hc0 : cs[0]? = some (.s f.1) := by rw [hcs]; rfl
  have hc1 : cs[1]? = some (.l 9 1 (f.2.map Ty.str.q)) := by rw [hcs]; rfl
  have hka : k + cnA cs ≤ 1099511627775 := by rw [← cnA_unA, ← hun]; exact hk
  have hcl : cs.length = 2 := by rw [hcs]; rfl
  have e1 : gb (.a (tFct.q f)) 0 = gbL (sa cs k 0) 0 := by rw [gb, hun, gbL_unA]; rfl
  have e2 : gb (mk (.a (tFct.q f)) k) 0 = gbL (sa cs k 2) 0 := by rw [mk, gb, hun, mkA_unA, gbL_unA, sa_all cs k hcl.symm]
  have e3 : cn (.a (tFct.q f)) = cnA (cs.take 2) := by rw [cn, hun, cnA_unA, List.take_of_length_le (by omega)]
  rw [e1, e2, e3]
  obtain ⟨nz, hnz⟩ : ∃ nz, nz = (gbL (sa cs k 0) 0).length := ⟨_, rfl⟩
  have hlb : ∀ p, (gbL (sa cs k p) 0).length = nz := fun p => by rw [hnz, length_gbL, length_gbL, nbL_sa, nbL_sa]
  have hat : ∀ p : Nat, (gbL (sa cs k p) 0 ++ [.cells .var (gvL (tFct.q f) 0)])[(gbL (sa cs k 0) 0).length]? = some (.cells .var (gvL (tFct.q f) 0)) := fun p => by
    rw [← hnz, List.getElem?_append_right (by rw [hlb]; exact Nat.le_refl _), hlb, Nat.sub_self]; rfl
  have n0 : cnA (cs.take 1) = cnA (cs.take 0) := cnA_succ hc0
  have s0 : gbL (sa cs k 1) 0 = gbL (sa cs k 0) 0 := by rw [sa_succ k hc0, sa_at k hc0]; rfl
  have n1 : cnA (cs.take 2) = cnA (cs.take 1) + cn (.l 9 1 (f.2.map Ty.str.q)) := cnA_succ hc1
  have l1 := cnA_take_le cs 2
  clear e1 e2 e3
  repeat' first
    | contradiction | exact trivial
    | (conv => whnf
       first | refine Need.mk (fun h => h) ?_ | refine Need.mk rfl ?_ | refine Need.mk ⟨rfl, Nat.le_of_ble_eq_true rfl⟩ ?_ | refine Need.mk (Nat.le_of_ble_eq_true rfl) ?_ | refine Need.fin ?_ | refine Need.mk ⟨rfl, by simp only [length_setAt, List.length_set, length_gvL, length_st, Int.toNat_natCast]; omega⟩ ?_ | refine Need.mk ?_ ?_ | refine Ix.strsF rfl ?_ | refine Ix.strs rfl ?_ ?_ | refine Cut.strs rfl ?_ ?_ | refine Ix.mapF (fun _ => rfl) ?_ | refine Ix.map (fun _ => rfl) ?_ ?_ | refine Cut.map (fun _ => rfl) ?_ ?_ | refine Fork.yes (by assumption) ?_ | refine Fork.no (by assumption) ?_ | refine Fork.decYes (by omega) ?_ | refine Fork.decNo (by omega) ?_ | refine Fork.dec (fun _ => ?_) (fun _ => ?_) | refine Fork.bne (fun _ => ?_) (fun _ => ?_) | refine Fork.beq (fun _ => ?_) (fun _ => ?_) | refine Fork.seq (fun _ => ?_) (fun _ => ?_) | refine Fork.sne (fun _ => ?_) (fun _ => ?_) | refine Fork.neg (fun _ => ?_) (fun _ => ?_) | refine Fork.mk (fun _ => ?_) (fun _ => ?_) | refine HAlt.mk ?_ ?_ | apply HJoin.mk3 | exact HEnd.mk rfl rfl rfl | refine HEnd.mk ?_ ?_ ?_ | refine Round.mk ?_ | refine NilQ.mk (fun b hb => ?_) | refine forceK_of ?_ | refine forceBx_of ?_ | refine unG_old ?_ | refine unG_gv ?_ | refine Lit.read rfl ?_ | refine FinVal.keep ?_ | refine FinAgg.keep ?_ | refine Final.mk rfl rfl | refine Final.mk ?_ rfl | refine Final.mk ?_ ?_ | refine FinalT.mk ?_ ?_ | refine FinalC.allA ?_)
    | refine AV.bool_congr ?_ | refine AV.int_congr ?_ | refine AV.str_congr ?_ | refine AV.list_congr ?_ | with_reducible rfl | refine fr1 ?_ | refine fr2 ?_ ?_
  have t1 : markStringS.Turn (gb (.l 9 1 (f.2.map Ty.str.q)) 0) [gv (.l 9 1 (f.2.map Ty.str.q)) 0, .val (.int .i64 ((k + cnA (cs.take 1) : Nat)))] (.val (.int .i64 ((k + cnA (cs.take 2) : Nat)))) (gb (mk (.l 9 1 (f.2.map Ty.str.q)) (k + cnA (cs.take 1))) 0) := by
    have h := markStringS.tn f.2 (k + cnA (cs.take 1)) (by omega) (by have := n1; change _ = _ + cn (.l 9 1 (f.2.map Ty.str.q)) at this; omega)
    rw [Nat.add_assoc] at h
    change markStringS.Turn _ _ (.val (.int .i64 ((k + (cnA (cs.take 1) + cn (.l 9 1 (f.2.map Ty.str.q))) : Nat)))) _ at h
    rw [← n1] at h; exact h
  have hk1 : ((k + cnA (cs.take 1) : Nat) : Int) = (k : Int) := by rw [n0, List.take_zero]; rfl
  conv => whnf
  refine ld_at _ _ (hat 0) rfl ?_
  conv => whnf
  refine ACall.turn' (gbL (sa cs k 2) 0 ++ [.cells .var (gvL (tFct.q f) 0)]) [gv (.l 9 1 (f.2.map Ty.str.q)) 0, .val (.int .i64 ((k + cnA (cs.take 1) : Nat)))] (.l 9 1 (f.2.map Ty.str.q)) (mk (.l 9 1 (f.2.map Ty.str.q)) (k + cnA (cs.take 1))) _ (gbL (mkA (cs.take 1) k) 0) (gbL (cs.drop 2) (nbL (cs.take 1) + nb (.l 9 1 (f.2.map Ty.str.q))) ++ [.cells .var (gvL (tFct.q f) 0)]) t1 rfl ?_ (nb_mk _ _) (.cons (.inl ⟨?_, rfl⟩) (.cons (.inr (by rw [hk1]; exact Sees0.val _)) .nil)) ?_ ?_
  · rw [← s0]; rw [bx_sa k hc1, List.append_assoc, List.append_assoc, List.append_assoc]
  · rw [length_gbL, nbL_mkA, hcs]
    refine AV.bsl_congr (j := 0 + 0) (j' := 0 + (0)) ?_ rfl
    simp only [Nat.add_zero, Nat.zero_add, Nat.add_assoc]
  · rw [bx_sa' k hc1, List.append_assoc, List.append_assoc, List.append_assoc]
  repeat' first
    | contradiction | exact trivial
    | (conv => whnf
       first | refine Need.mk (fun h => h) ?_ | refine Need.mk rfl ?_ | refine Need.mk ⟨rfl, Nat.le_of_ble_eq_true rfl⟩ ?_ | refine Need.mk (Nat.le_of_ble_eq_true rfl) ?_ | refine Need.fin ?_ | refine Need.mk ⟨rfl, by simp only [length_setAt, List.length_set, length_gvL, length_st, Int.toNat_natCast]; omega⟩ ?_ | refine Need.mk ?_ ?_ | refine Ix.strsF rfl ?_ | refine Ix.strs rfl ?_ ?_ | refine Cut.strs rfl ?_ ?_ | refine Ix.mapF (fun _ => rfl) ?_ | refine Ix.map (fun _ => rfl) ?_ ?_ | refine Cut.map (fun _ => rfl) ?_ ?_ | refine Fork.yes (by assumption) ?_ | refine Fork.no (by assumption) ?_ | refine Fork.decYes (by omega) ?_ | refine Fork.decNo (by omega) ?_ | refine Fork.dec (fun _ => ?_) (fun _ => ?_) | refine Fork.bne (fun _ => ?_) (fun _ => ?_) | refine Fork.beq (fun _ => ?_) (fun _ => ?_) | refine Fork.seq (fun _ => ?_) (fun _ => ?_) | refine Fork.sne (fun _ => ?_) (fun _ => ?_) | refine Fork.neg (fun _ => ?_) (fun _ => ?_) | refine Fork.mk (fun _ => ?_) (fun _ => ?_) | refine HAlt.mk ?_ ?_ | apply HJoin.mk3 | exact HEnd.mk rfl rfl rfl | refine HEnd.mk ?_ ?_ ?_ | refine Round.mk ?_ | refine NilQ.mk (fun b hb => ?_) | refine forceK_of ?_ | refine forceBx_of ?_ | refine unG_old ?_ | refine unG_gv ?_ | refine Lit.read rfl ?_ | refine FinVal.keep ?_ | refine FinAgg.keep ?_ | refine Final.mk rfl rfl | refine Final.mk ?_ rfl | refine Final.mk ?_ ?_ | refine FinalT.mk ?_ ?_ | refine FinalC.allA ?_)
    | refine AV.bool_congr ?_ | refine AV.int_congr ?_ | refine AV.str_congr ?_ | refine AV.list_congr ?_ | with_reducible rfl | refine fr1 ?_ | refine fr2 ?_ ?_
  all_goals first
    | (simp [hlb]; done)
    | rfl
    | (rw [Nat.add_zero]; done)
    | (rw [List.take_append_of_le_length (by rw [hlb, hlb]; exact Nat.le_refl _), List.take_of_length_le (by rw [hlb, hlb]; exact Nat.le_refl _)]; done)
theorem heldFact.hd (f : Fct) (k : Nat) (hs : tFct.size f ≤ 1099511627775) (hk : k + cn (.a (tFct.q f)) ≤ 1099511627775) : heldFact.Ret [old (mk (.a (tFct.q f)) k), .val (.int .i64 k)] (.val (.int .i64 ((k + cn (.a (tFct.q f)) : Nat)))) [] := by
  refine heldFact.ofS rfl rfl ?_
  have hz2 := tFact_size f
  have hks : k + cn (.a (tFct.q f)) = k + cn (.l 9 1 (f.2.map Ty.str.q)) := by
    show k + (0 + (cn (.l 9 1 (f.2.map Ty.str.q)) + (0))) = _
    simp only [Nat.add_assoc, Nat.add_zero, Nat.zero_add]
  rw [hks] at hk ⊢
  show aCode _ _ _ _ _ ⟨argEnv 0 [.agg (oldL (mkA (tFct.q f) k)), .val (.int .i64 k)], [], []⟩
  repeat' first
    | contradiction | exact trivial
    | (conv => whnf
       first | refine Need.mk (fun h => h) ?_ | refine Need.mk rfl ?_ | refine Need.mk ⟨rfl, Nat.le_of_ble_eq_true rfl⟩ ?_ | refine Need.mk (Nat.le_of_ble_eq_true rfl) ?_ | refine Need.fin ?_ | refine Need.mk ?_ ?_ | refine Ix.strsF rfl ?_ | refine Ix.strs rfl ?_ ?_ | refine Cut.strs rfl ?_ ?_ | refine Ix.mapF (fun _ => rfl) ?_ | refine Ix.map (fun _ => rfl) ?_ ?_ | refine Cut.map (fun _ => rfl) ?_ ?_ | refine Fork.yes (by assumption) ?_ | refine Fork.no (by assumption) ?_ | refine Fork.decYes (by omega) ?_ | refine Fork.decNo (by omega) ?_ | refine Fork.dec (fun _ => ?_) (fun _ => ?_) | refine Fork.bne (fun _ => ?_) (fun _ => ?_) | refine Fork.beq (fun _ => ?_) (fun _ => ?_) | refine Fork.seq (fun _ => ?_) (fun _ => ?_) | refine Fork.sne (fun _ => ?_) (fun _ => ?_) | refine Fork.neg (fun _ => ?_) (fun _ => ?_) | refine Fork.mk (fun _ => ?_) (fun _ => ?_) | refine HAlt.mk ?_ ?_ | apply HJoin.mk3 | exact HEnd.mk rfl rfl rfl | refine HEnd.mk ?_ ?_ ?_ | refine Round.mk ?_ | refine NilQ.mk (fun b hb => ?_) | refine forceK_of ?_ | refine forceBx_of ?_ | refine unG_old ?_ | refine unG_gv ?_ | refine Lit.read rfl ?_ | refine FinVal.keep ?_ | refine FinAgg.keep ?_ | refine Final.mk rfl rfl | refine Final.mk ?_ rfl | refine Final.mk ?_ ?_ | refine FinalT.mk ?_ ?_ | refine FinalC.allA ?_)
    | refine AV.bool_congr ?_ | refine AV.int_congr ?_ | refine AV.str_congr ?_ | refine AV.list_congr ?_ | with_reducible rfl | refine fr1 ?_ | refine fr2 ?_ ?_
  conv => whnf
  refine ACall.scal [old (mk (.l 9 1 (f.2.map Ty.str.q)) (k)), .val (.int .i64 ((k : Nat)))] _ (heldStringS.hd f.2 (k) (by omega) (by omega)) rfl (.cons (SeesB.of0 (Sees0.olds _ _)) (.cons (SeesB.of0 (Sees0.val _)) .nil)) ?_
  repeat' first
    | contradiction | exact trivial
    | (conv => whnf
       first | refine Need.mk (fun h => h) ?_ | refine Need.mk rfl ?_ | refine Need.mk ⟨rfl, Nat.le_of_ble_eq_true rfl⟩ ?_ | refine Need.mk (Nat.le_of_ble_eq_true rfl) ?_ | refine Need.fin ?_ | refine Need.mk ?_ ?_ | refine Ix.strsF rfl ?_ | refine Ix.strs rfl ?_ ?_ | refine Cut.strs rfl ?_ ?_ | refine Ix.mapF (fun _ => rfl) ?_ | refine Ix.map (fun _ => rfl) ?_ ?_ | refine Cut.map (fun _ => rfl) ?_ ?_ | refine Fork.yes (by assumption) ?_ | refine Fork.no (by assumption) ?_ | refine Fork.decYes (by omega) ?_ | refine Fork.decNo (by omega) ?_ | refine Fork.dec (fun _ => ?_) (fun _ => ?_) | refine Fork.bne (fun _ => ?_) (fun _ => ?_) | refine Fork.beq (fun _ => ?_) (fun _ => ?_) | refine Fork.seq (fun _ => ?_) (fun _ => ?_) | refine Fork.sne (fun _ => ?_) (fun _ => ?_) | refine Fork.neg (fun _ => ?_) (fun _ => ?_) | refine Fork.mk (fun _ => ?_) (fun _ => ?_) | refine HAlt.mk ?_ ?_ | apply HJoin.mk3 | exact HEnd.mk rfl rfl rfl | refine HEnd.mk ?_ ?_ ?_ | refine Round.mk ?_ | refine NilQ.mk (fun b hb => ?_) | refine forceK_of ?_ | refine forceBx_of ?_ | refine unG_old ?_ | refine unG_gv ?_ | refine Lit.read rfl ?_ | refine FinVal.keep ?_ | refine FinAgg.keep ?_ | refine Final.mk rfl rfl | refine Final.mk ?_ rfl | refine Final.mk ?_ ?_ | refine FinalT.mk ?_ ?_ | refine FinalC.allA ?_)
    | refine AV.bool_congr ?_ | refine AV.int_congr ?_ | refine AV.str_congr ?_ | refine AV.list_congr ?_ | with_reducible rfl | refine fr1 ?_ | refine fr2 ?_ ?_
end Go.Proofs.Ytlmlfkjdgnpmjaa
namespace Go.Proofs.Ytlmlfkjdgnpmjaa
open Abs
def sIsPattern.code : ACode := (.seq (.region false [s 1 (.box (t 0)), s 2 (.mv (.const (.bool false)))]) (.seq (.seq (.region false [s 3 (.mv (.const (.int .i64 0)))]) (.block 0 (.loop (.seq (.seq (.region false [s 4 (.mv (t 3)), s 5 (.fadr 1 (t 1)), s 6 (.load false 1 (t 5)), s 7 (.len false (t 6)), s 8 (.bin .lss (t 4) (t 7))]) (.cond (t 8) .skip (.exit 0))) (.seq (.block 1 (.seq (.region false [s 11 (.fadr 1 (t 1)), s 12 (.load false 1 (t 11)), s 13 (.mv (t 3)), s 14 (.iadr 1 (t 12) (t 13)), s 15 (.load false 1 (t 14)), s 16 (.call 73 [(t 15)]), s 17 (.not (t 16))]) (.cond (t 17) (.seq (.region false [s 2 (.mv (.const (.bool false)))]) .ret) .skip))) (.region false [s 9 (.mv (t 3)), s 10 (.bin .add (t 9) (.const (.int .i64 1))), s 3 (.mv (t 10))])))))) (.seq (.region false [s 18 (.fadr 0 (t 1)), s 19 (.load false 1 (t 18)), s 20 (.call 74 [(t 19)]), s 21 (.mv (t 20)), g 21 true 22 (.fadr 1 (t 1)), g 21 true 23 (.load false 1 (t 22)), g 21 true 24 (.len false (t 23)), g 21 true 25 (.bin .leq (t 24) (.const (.int .i64 3))), s 26 (.and (t 21) (t 25)), s 2 (.mv (t 26))]) .ret)))
def sIsPattern.keep : List Nat := [0, 1, 2, 3]
def sIsPattern.res : List RRes := [.tmp 2]
theorem sIsPattern.of {mo : Bool} {args : List AV} {r : AV} {frs : Fr} (hn : Nat.ble args.length Try.f36.ntmps = true) (h : aCode (Kn mo Try.prog) sIsPattern.keep 0 sIsPattern.code (doneK sIsPattern.res r frs) ⟨argEnv 0 args, [], []⟩) : Abs.Ret mo Try.prog 36 args r frs :=
  Abs.Ret.of_ir Try.func36 rfl (by kernel_rfl) (Nat.le_of_ble_eq_true hn) (by kernel_rfl) (by kernel_rfl) h
abbrev sIsPattern.Ret (args : List AV) (r : AV) (frs : Fr) : Prop := Abs.Ret true Try.prog 36 args r frs
def pIsPattern.code : ACode := (.seq (.region false [s 1 (.box (t 0)), s 2 (.mv (.const (.bool false)))]) (.seq (.region false [s 3 (.fadr 0 (t 1)), s 4 (.load false 1 (t 3)), s 5 (.fadr 1 (t 1)), s 6 (.load false 1 (t 5)), s 7 (.call 75 [(t 4), (t 6), (.func 76)]), s 2 (.mv (t 7))]) .ret))
def pIsPattern.keep : List Nat := [0, 1, 2]
def pIsPattern.res : List RRes := [.tmp 2]
theorem pIsPattern.of {mo : Bool} {args : List AV} {r : AV} {frs : Fr} (hn : Nat.ble args.length Try.f41.ntmps = true) (h : aCode (Kn mo Try.prog) pIsPattern.keep 0 pIsPattern.code (doneK pIsPattern.res r frs) ⟨argEnv 0 args, [], []⟩) : Abs.Ret mo Try.prog 41 args r frs :=
  Abs.Ret.of_ir Try.func41 rfl (by kernel_rfl) (Nat.le_of_ble_eq_true hn) (by kernel_rfl) (by kernel_rfl) h
abbrev pIsPattern.Ret (args : List AV) (r : AV) (frs : Fr) : Prop := Abs.Ret true Try.prog 41 args r frs
def sIsBinding.code : ACode := (.seq (.region false [s 2 (.mv (.const (.bool false)))]) (.seq (.seq (.region false [s 3 (.mv (.const (.int .i64 0)))]) (.block 0 (.loop (.seq (.seq (.region false [s 4 (.mv (t 3)), s 5 (.mv (t 0)), s 6 (.len false (t 5)), s 7 (.bin .lss (t 4) (t 6))]) (.cond (t 7) .skip (.exit 0))) (.seq (.block 1 (.seq (.region true [s 10 (.mv (t 0)), s 11 (.mv (t 3)), s 12 (.iadr 2 (t 10) (t 11)), s 13 (.fadr 0 (t 12)), s 14 (.load false 1 (t 13)), s 15 (.call 49 [(t 14)]), s 16 (.not (t 15)), s 17 (.mv (t 16)), g 17 false 18 (.mv (t 0)), g 17 false 19 (.mv (t 3)), g 17 false 20 (.iadr 2 (t 18) (t 19)), g 17 false 21 (.fadr 1 (t 20)), g 17 false 22 (.load false 1 (t 21)), g 17 false 23 (.call 50 [(t 22)]), g 17 false 24 (.not (t 23)), s 25 (.or (t 17) (t 24)), s 26 (.mv (t 25)), g 26 false 27 (.mv (t 3)), g 26 false 28 (.bin .gtr (t 27) (.const (.int .i64 0))), g 26 false 29 (.mv (t 28)), g 29 true 30 (.mv (t 0)), g 29 true 31 (.mv (t 3)), g 29 true 32 (.bin .sub (t 31) (.const (.int .i64 1))), g 29 true 33 (.iadr 2 (t 30) (t 32)), g 29 true 34 (.fadr 0 (t 33)), g 29 true 35 (.load false 1 (t 34)), g 29 true 36 (.mv (t 0)), g 29 true 37 (.mv (t 3)), g 29 true 38 (.iadr 2 (t 36) (t 37)), g 29 true 39 (.fadr 0 (t 38)), g 29 true 40 (.load false 1 (t 39)), g 29 true 41 (.bin .geq (t 35) (t 40)), g 26 false 42 (.and (t 29) (t 41)), s 43 (.or (t 26) (t 42))]) (.cond (t 43) (.seq (.region false [s 2 (.mv (.const (.bool false)))]) .ret) .skip))) (.region false [s 8 (.mv (t 3)), s 9 (.bin .add (t 8) (.const (.int .i64 1))), s 3 (.mv (t 9))])))))) (.seq (.region false [s 44 (.mv (t 0)), s 45 (.len false (t 44)), s 46 (.bin .leq (t 45) (.const (.int .i64 6))), s 2 (.mv (t 46))]) .ret)))
def sIsBinding.keep : List Nat := [0, 2, 3]
def sIsBinding.res : List RRes := [.tmp 2]
theorem sIsBinding.of {mo : Bool} {args : List AV} {r : AV} {frs : Fr} (hn : Nat.ble args.length Try.f37.ntmps = true) (h : aCode (Kn mo Try.prog) sIsBinding.keep 0 sIsBinding.code (doneK sIsBinding.res r frs) ⟨argEnv 0 args, [], []⟩) : Abs.Ret mo Try.prog 37 args r frs :=
  Abs.Ret.of_ir Try.func37 rfl (by kernel_rfl) (Nat.le_of_ble_eq_true hn) (by kernel_rfl) (by kernel_rfl) h
abbrev sIsBinding.Ret (args : List AV) (r : AV) (frs : Fr) : Prop := Abs.Ret true Try.prog 37 args r frs
def pIsBinding.code : ACode := (.seq (.region false [s 2 (.mv (.const (.bool false)))]) (.seq (.seq (.region false [s 5 (.mv (t 0)), s 6 (.len false (t 5)), s 7 (.bin .gtr (t 6) (.const (.int .i64 6)))]) (.cond (t 7) (.seq (.region false [s 2 (.mv (.const (.bool false)))]) .ret) .skip)) (.seq (.seq (.region false [s 8 (.mv (t 0)), s 9 (.len false (t 8)), s 10 (.mv (.const (.int .i64 0)))]) (.block 0 (.loop (.seq (.region false [s 11 (.bin .lss (t 10) (t 9))]) (.seq (.cond (t 11) .skip (.exit 0)) (.seq (.block 1 (.seq (.region false [s 12 (.mv (t 10)), s 13 (.iadr 2 (t 8) (t 10)), s 14 (.load true 2 (t 13)), s 4 (.alloc [(.string (.mk (.mk []))), (.string (.mk (.mk [])))]), s 3 (.mv (t 12)), ⟨none, none, (.store 2 (t 4) (t 14))⟩]) (.seq (.region true [s 15 (.fadr 0 (t 4)), s 16 (.load false 1 (t 15)), s 17 (.call 53 [(t 16)]), s 18 (.not (t 17)), s 19 (.mv (t 18)), g 19 false 20 (.fadr 1 (t 4)), g 19 false 21 (.load false 1 (t 20)), g 19 false 22 (.call 54 [(t 21)]), g 19 false 23 (.not (t 22)), s 24 (.or (t 19) (t 23)), s 25 (.mv (t 24)), g 25 false 26 (.mv (t 3)), g 25 false 27 (.bin .gtr (t 26) (.const (.int .i64 0))), g 25 false 28 (.mv (t 27)), g 28 true 29 (.mv (t 0)), g 28 true 30 (.mv (t 3)), g 28 true 31 (.bin .sub (t 30) (.const (.int .i64 1))), g 28 true 32 (.iadr 2 (t 29) (t 31)), g 28 true 33 (.fadr 0 (t 32)), g 28 true 34 (.load false 1 (t 33)), g 28 true 35 (.fadr 0 (t 4)), g 28 true 36 (.load false 1 (t 35)), g 28 true 37 (.bin .geq (t 34) (t 36)), g 25 false 38 (.and (t 28) (t 37)), s 39 (.or (t 25) (t 38))]) (.cond (t 39) (.seq (.region false [s 2 (.mv (.const (.bool false)))]) .ret) .skip)))) (.region false [s 40 (.bin .add (t 10) (.const (.int .i64 1))), s 10 (.mv (t 40))]))))))) (.seq (.region false [s 2 (.mv (.const (.bool true)))]) .ret))))
def pIsBinding.keep : List Nat := [0, 2, 3, 4, 8, 9, 10, 11]
def pIsBinding.res : List RRes := [.tmp 2]
theorem pIsBinding.of {mo : Bool} {args : List AV} {r : AV} {frs : Fr} (hn : Nat.ble args.length Try.f42.ntmps = true) (h : aCode (Kn mo Try.prog) pIsBinding.keep 0 pIsBinding.code (doneK pIsBinding.res r frs) ⟨argEnv 0 args, [], []⟩) : Abs.Ret mo Try.prog 42 args r frs :=
  Abs.Ret.of_ir Try.func42 rfl (by kernel_rfl) (Nat.le_of_ble_eq_true hn) (by kernel_rfl) (by kernel_rfl) h
abbrev pIsBinding.Ret (args : List AV) (r : AV) (frs : Fr) : Prop := Abs.Ret true Try.prog 42 args r frs
def sValueOf.code : ACode := (.seq (.region false [s 4 (.mv (.const (.string (.mk #[])))), s 5 (.mv (.const (.bool false)))]) (.seq (.seq (.region false [s 7 (.mv (t 1)), s 8 (.call 50 [(t 7)])]) (.cond (t 8) (.seq (.region false [s 9 (.mv (t 1)), s 4 (.mv (t 9)), s 5 (.mv (.const (.bool true)))]) .ret) .skip)) (.seq (.seq (.region false [s 6 (.mv (.const (.int .i64 0)))]) (.block 0 (.loop (.seq (.seq (.region false [s 10 (.mv (t 6)), s 11 (.mv (t 0)), s 12 (.len false (t 11)), s 13 (.bin .lss (t 10) (t 12))]) (.cond (t 13) .skip (.exit 0))) (.seq (.block 1 (.seq (.region false [s 16 (.mv (t 0)), s 17 (.mv (t 6)), s 18 (.iadr 2 (t 16) (t 17)), s 19 (.fadr 0 (t 18)), s 20 (.load false 1 (t 19)), s 21 (.mv (t 1)), s 22 (.bin .eql (t 20) (t 21)), s 23 (.mv (t 22)), g 23 true 24 (.mv (t 1)), g 23 true 25 (.call 49 [(t 24)]), s 26 (.and (t 23) (t 25))]) (.cond (t 26) (.seq (.region false [s 27 (.mv (t 0)), s 28 (.mv (t 6)), s 29 (.iadr 2 (t 27) (t 28)), s 30 (.fadr 1 (t 29)), s 31 (.load false 1 (t 30)), s 4 (.mv (t 31)), s 5 (.mv (.const (.bool true)))]) .ret) .skip))) (.region false [s 14 (.mv (t 6)), s 15 (.bin .add (t 14) (.const (.int .i64 1))), s 6 (.mv (t 15))])))))) (.seq (.region false [s 4 (.mv (.const (.string (.mk #[])))), s 5 (.mv (.const (.bool false)))]) .ret))))
def sValueOf.keep : List Nat := [0, 1, 4, 5, 6]
def sValueOf.res : List RRes := [.tmp 4, .tmp 5]
theorem sValueOf.ofS {mo : Bool} {args : List AV} {r : AV} (hr : isScalR r = true) (hn : Nat.ble args.length Try.f38.ntmps = true) (h : aCode (Kn mo Try.prog) sValueOf.keep 0 sValueOf.code (doneS sValueOf.res r) ⟨argEnv 0 args, [], []⟩) : Abs.Ret mo Try.prog 38 args r [] :=
  Abs.Ret.of_irS hr Try.func38 rfl (by kernel_rfl) (Nat.le_of_ble_eq_true hn) (by kernel_rfl) (by kernel_rfl) h
abbrev sValueOf.Ret (args : List AV) (r : AV) (frs : Fr) : Prop := Abs.Ret true Try.prog 38 args r frs
def pValueOf.code : ACode := (.seq (.region false [s 4 (.mv (.const (.string (.mk #[])))), s 5 (.mv (.const (.bool false)))]) (.seq (.seq (.region false [s 8 (.mv (t 1)), s 9 (.call 54 [(t 8)])]) (.cond (t 9) (.seq (.region false [s 10 (.mv (t 1)), s 4 (.mv (t 10)), s 5 (.mv (.const (.bool true)))]) .ret) .skip)) (.seq (.seq (.region false [s 11 (.mv (t 1)), s 12 (.call 53 [(t 11)]), s 13 (.not (t 12))]) (.cond (t 13) (.seq (.region false [s 4 (.mv (.const (.string (.mk #[])))), s 5 (.mv (.const (.bool false)))]) .ret) .skip)) (.seq (.seq (.region false [s 14 (.mv (t 0)), s 15 (.len false (t 14)), s 16 (.mv (.const (.int .i64 0)))]) (.block 0 (.loop (.seq (.region false [s 17 (.bin .lss (t 16) (t 15))]) (.seq (.cond (t 17) .skip (.exit 0)) (.seq (.block 1 (.seq (.region false [s 18 (.iadr 2 (t 14) (t 16)), s 19 (.load true 2 (t 18)), s 7 (.alloc [(.string (.mk (.mk []))), (.string (.mk (.mk [])))]), ⟨none, none, (.store 2 (t 7) (t 19))⟩]) (.seq (.region false [s 20 (.fadr 0 (t 7)), s 21 (.load false 1 (t 20)), s 22 (.mv (t 1)), s 23 (.bin .eql (t 21) (t 22))]) (.cond (t 23) (.seq (.region false [s 24 (.fadr 1 (t 7)), s 25 (.load false 1 (t 24)), s 4 (.mv (t 25)), s 5 (.mv (.const (.bool true)))]) .ret) .skip)))) (.region false [s 26 (.bin .add (t 16) (.const (.int .i64 1))), s 16 (.mv (t 26))]))))))) (.seq (.region false [s 4 (.mv (.const (.string (.mk #[])))), s 5 (.mv (.const (.bool false)))]) .ret)))))
def pValueOf.keep : List Nat := [0, 1, 4, 5, 7, 14, 15, 16, 17]
def pValueOf.res : List RRes := [.tmp 4, .tmp 5]
theorem pValueOf.ofS {mo : Bool} {args : List AV} {r : AV} (hr : isScalR r = true) (hn : Nat.ble args.length Try.f43.ntmps = true) (h : aCode (Kn mo Try.prog) pValueOf.keep 0 pValueOf.code (doneS pValueOf.res r) ⟨argEnv 0 args, [], []⟩) : Abs.Ret mo Try.prog 43 args r [] :=
  Abs.Ret.of_irS hr Try.func43 rfl (by kernel_rfl) (Nat.le_of_ble_eq_true hn) (by kernel_rfl) (by kernel_rfl) h
abbrev pValueOf.Ret (args : List AV) (r : AV) (frs : Fr) : Prop := Abs.Ret true Try.prog 43 args r frs
def sInstance.code : ACode := (.seq (.region false [s 2 (.box (t 0)), s 4 (.alloc [(.string (.mk (.mk []))), (.slice none 0 0)]), s 5 (.mv (.const (.bool false)))]) (.seq (.seq (.region false [s 10 (.load true 2 (t 2)), s 11 (.call 36 [(t 10)]), s 12 (.not (t 11)), s 13 (.mv (t 12)), g 13 false 14 (.mv (t 1)), g 13 false 15 (.call 37 [(t 14)]), g 13 false 16 (.not (t 15)), s 17 (.or (t 13) (t 16))]) (.cond (t 17) (.seq (.region false [s 18 (.build [(.string (.mk (.mk []))), (.slice none 0 0)] [] []), ⟨none, none, (.store 2 (t 4) (t 18))⟩, s 5 (.mv (.const (.bool false)))]) .ret) .skip)) (.seq (.region false [s 19 (.fadr 0 (t 2)), s 20 (.load false 1 (t 19)), s 21 (.build [(.string (.mk (.mk []))), (.slice none 0 0)] [(0, 1)] [(t 20)]), s 6 (.alloc [(.string (.mk (.mk []))), (.slice none 0 0)]), ⟨none, none, (.store 2 (t 6) (t 21))⟩]) (.seq (.seq (.region false [s 7 (.mv (.const (.int .i64 0)))]) (.block 0 (.loop (.seq (.seq (.region false [s 22 (.mv (t 7)), s 23 (.fadr 1 (t 2)), s 24 (.load false 1 (t 23)), s 25 (.len false (t 24)), s 26 (.bin .lss (t 22) (t 25))]) (.cond (t 26) .skip (.exit 0))) (.seq (.block 1 (.seq (.region false [s 30 (.mv (t 1)), s 31 (.fadr 1 (t 2)), s 32 (.load false 1 (t 31)), s 33 (.mv (t 7)), s 34 (.iadr 1 (t 32) (t 33)), s 35 (.load false 1 (t 34)), s 36 (.call 38 [(t 30), (t 35)]), s 29 (.mv (t 36)), s 37 (.extract (t 29) 0), s 38 (.extract (t 29) 1), s 8 (.mv (t 37)), s 9 (.mv (t 38))]) (.seq (.seq (.region false [s 39 (.mv (t 9)), s 40 (.not (t 39))]) (.cond (t 40) (.seq (.region false [s 41 (.build [(.string (.mk (.mk []))), (.slice none 0 0)] [] []), ⟨none, none, (.store 2 (t 4) (t 41))⟩, s 5 (.mv (.const (.bool false)))]) .ret) .skip)) (.region false [s 42 (.fadr 1 (t 6)), s 43 (.load false 1 (t 42)), s 44 (.mv (t 8)), s 45 (.bslice 9 1 false [(t 44)]), s 46 (.append 9 1 16 (t 43) (t 45)), s 47 (.fadr 1 (t 6)), ⟨none, none, (.store 1 (t 47) (t 46))⟩])))) (.region false [s 27 (.mv (t 7)), s 28 (.bin .add (t 27) (.const (.int .i64 1))), s 7 (.mv (t 28))])))))) (.seq (.region false [s 48 (.load true 2 (t 6)), ⟨none, none, (.store 2 (t 4) (t 48))⟩, s 5 (.mv (.const (.bool true)))]) .ret)))))
def sInstance.keep : List Nat := [0, 1, 2, 4, 5, 6, 7, 8, 9]
def sInstance.res : List RRes := [.cell 4 true 2, .tmp 5]
abbrev sInstance.Own (args : List AV) (x : Tr) : Prop := Abs.Own true Try.prog 9 args x
def pInstance.code : ACode := (.seq (.region false [s 2 (.box (t 0)), s 4 (.alloc [(.string (.mk (.mk []))), (.slice none 0 0)]), s 5 (.mv (.const (.bool false)))]) (.seq (.seq (.region false [s 11 (.load true 2 (t 2)), s 12 (.call 41 [(t 11)]), s 13 (.not (t 12)), s 14 (.mv (t 13)), g 14 false 15 (.mv (t 1)), g 14 false 16 (.call 42 [(t 15)]), g 14 false 17 (.not (t 16)), s 18 (.or (t 14) (t 17))]) (.cond (t 18) (.seq (.region false [s 19 (.build [(.string (.mk (.mk []))), (.slice none 0 0)] [] []), ⟨none, none, (.store 2 (t 4) (t 19))⟩, s 5 (.mv (.const (.bool false)))]) .ret) .skip)) (.seq (.heldT [20, 21, 22, 23, 24, 25, 26, 6] (.alt (s 20 (.fadr 0 (t 2))) (.alt (s 21 (.load false 1 (t 20))) (.alt (s 22 (.fadr 1 (t 2))) (.alt (s 23 (.load false 1 (t 22))) (.alt (s 24 (.len false (t 23))) (.alt (s 25 (.make 9 [(.string (.mk (.mk [])))] 1 16 (t 24))) (.alt (s 26 (.build [(.string (.mk (.mk []))), (.slice none 0 0)] [(0, 1), (1, 1)] [(t 21), (t 25)])) (.alt (s 6 (.alloc [(.string (.mk (.mk []))), (.slice none 0 0)])) .fin .none) .none) (.alt (s 6 (.alloc [(.string (.mk (.mk []))), (.slice none 0 0)])) (.alt (s 25 (.make 9 [(.string (.mk (.mk [])))] 1 16 (t 24))) (.alt (s 26 (.build [(.string (.mk (.mk []))), (.slice none 0 0)] [(0, 1), (1, 1)] [(t 21), (t 25)])) .fin .none) .none) .none)) .none) .none) .none) .none) .none) [⟨none, none, (.store 2 (t 6) (t 26))⟩]) (.seq (.seq (.region false [s 27 (.fadr 1 (t 2)), s 28 (.load false 1 (t 27)), s 29 (.len false (t 28)), s 30 (.mv (.const (.int .i64 0)))]) (.block 0 (.loop (.seq (.region false [s 31 (.bin .lss (t 30) (t 29))]) (.seq (.cond (t 31) .skip (.exit 0)) (.seq (.block 1 (.seq (.region false [s 32 (.mv (t 30)), s 33 (.iadr 1 (t 28) (t 30)), s 34 (.load false 1 (t 33)), s 7 (.mv (t 32)), s 8 (.mv (t 34))]) (.seq (.region false [s 36 (.mv (t 1)), s 37 (.mv (t 8)), s 38 (.call 43 [(t 36), (t 37)]), s 35 (.mv (t 38)), s 39 (.extract (t 35) 0), s 40 (.extract (t 35) 1), s 9 (.mv (t 39)), s 10 (.mv (t 40))]) (.seq (.seq (.region false [s 41 (.mv (t 10)), s 42 (.not (t 41))]) (.cond (t 42) (.seq (.region false [s 43 (.build [(.string (.mk (.mk []))), (.slice none 0 0)] [] []), ⟨none, none, (.store 2 (t 4) (t 43))⟩, s 5 (.mv (.const (.bool false)))]) .ret) .skip)) (.region false [s 44 (.fadr 1 (t 6)), s 45 (.load false 1 (t 44)), s 46 (.mv (t 7)), s 47 (.mv (t 9)), s 48 (.iadr 1 (t 45) (t 46)), ⟨none, none, (.store 1 (t 48) (t 47))⟩]))))) (.region false [s 49 (.bin .add (t 30) (.const (.int .i64 1))), s 30 (.mv (t 49))]))))))) (.seq (.region false [s 50 (.load true 2 (t 6)), ⟨none, none, (.store 2 (t 4) (t 50))⟩, s 5 (.mv (.const (.bool true)))]) .ret)))))
def pInstance.keep : List Nat := [0, 1, 2, 4, 5, 6, 7, 8, 9, 10, 28, 29, 30, 31]
def pInstance.res : List RRes := [.cell 4 true 2, .tmp 5]
abbrev pInstance.Own (args : List AV) (x : Tr) : Prop := Abs.Own true Try.prog 12 args x
def pisTuple.code : ACode := (.seq (.region false [s 6 (.mv (.const (.bool false)))]) (.seq (.seq (.region false [s 9 (.mv (t 0)), s 10 (.call 93 [(t 9)]), s 11 (.not (t 10)), s 12 (.mv (t 11)), g 12 false 13 (.mv (t 1)), g 12 false 14 (.len false (t 13)), g 12 false 15 (.bin .gtr (t 14) (.const (.int .i64 3))), s 16 (.or (t 12) (t 15))]) (.cond (t 16) (.seq (.region false [s 6 (.mv (.const (.bool false)))]) .ret) .skip)) (.seq (.seq (.region false [s 17 (.mv (t 1)), s 18 (.len false (t 17)), s 19 (.mv (.const (.int .i64 0)))]) (.block 0 (.loop (.seq (.region false [s 20 (.bin .lss (t 19) (t 18))]) (.seq (.cond (t 20) .skip (.exit 0)) (.seq (.block 1 (.seq (.region false [s 21 (.iadr 1 (t 17) (t 19)), s 22 (.load false 1 (t 21)), s 8 (.mv (t 22))]) (.seq (.region false [s 23 (.mv (t 2)), s 24 (.mv (t 8)), s 25 (.callv (t 23) [(t 24)]), s 26 (.not (t 25))]) (.cond (t 26) (.seq (.region false [s 6 (.mv (.const (.bool false)))]) .ret) .skip)))) (.region false [s 27 (.bin .add (t 19) (.const (.int .i64 1))), s 19 (.mv (t 27))]))))))) (.seq (.region false [s 6 (.mv (.const (.bool true)))]) .ret))))
def pisTuple.keep : List Nat := [0, 1, 2, 6, 8, 17, 18, 19, 20]
def pisTuple.res : List RRes := [.tmp 6]
theorem pisTuple.of {mo : Bool} {args : List AV} {r : AV} {frs : Fr} (hn : Nat.ble args.length Try.f75.ntmps = true) (h : aCode (Kn mo Try.prog) pisTuple.keep 0 pisTuple.code (doneK pisTuple.res r frs) ⟨argEnv 0 args, [], []⟩) : Abs.Ret mo Try.prog 75 args r frs :=
  Abs.Ret.of_ir Try.func75 rfl (by kernel_rfl) (Nat.le_of_ble_eq_true hn) (by kernel_rfl) (by kernel_rfl) h
abbrev pisTuple.Ret (args : List AV) (r : AV) (frs : Fr) : Prop := Abs.Ret true Try.prog 75 args r frs
end Go.Proofs.Ytlmlfkjdgnpmjaa
