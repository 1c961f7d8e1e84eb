/-
  What stands below some laws' proofs, part 1: contracts of functions, by an evaluator.
-/
import Derived.Test.YtkbblglbbfdnpaaK5
import Derived.Laws.RangeAny
import Derived.Sort.Row
import Derived.Sort.Grow
import Derived.Shelf.Sort.Plain
import Derived.Shelf.Slices.CompactS
import Derived.Shelf.Slices.In.SortNone
import Derived.Test.YtkbblglbbfdnpaaProg
import Derived.Lib.SlicesCompact
import Derived.Sort.Statements
import Derived.Shelf.SlIter.Nil
import Derived.Shelf.SortM.Plain
import Derived.Shelf.SortM.SortNone
import Derived.Ground.GgzProg
import Derived.Ground.SlgmProg
import Derived.Maps.Own
import Derived.Test.YtkbblglbbfdnpaaRows
import Derived.ProofKit
import Derived.Deep.Slices
namespace Go.Proofs.Ytkbblglbbfdnpaa
open Abs
def dNew.code : ACode := (.seq (.region false [s 2 (.mv (.const (.pointer none)))]) (.seq (.region false [s 5 (.mv (t 0)), s 6 (.len false (t 5)), s 7 (.bin .mul (.const (.int .i64 3)) (t 6)), s 8 (.bin .add (.const (.int .i64 851207)) (t 7)), s 3 (.mv (t 8))]) (.seq (.seq (.region false [s 4 (.mv (.const (.int .i64 0)))]) (.block 0 (.loop (.seq (.seq (.region false [s 9 (.mv (t 4)), s 10 (.mv (t 0)), s 11 (.len false (t 10)), s 12 (.bin .lss (t 9) (t 11)), s 13 (.mv (t 12)), g 13 true 14 (.mv (t 4)), g 13 true 15 (.bin .lss (t 14) (.const (.int .i64 4000))), s 16 (.and (t 13) (t 15))]) (.cond (t 16) .skip (.exit 0))) (.seq (.block 1 (.region false [s 19 (.mv (t 3)), s 20 (.bin .mul (t 19) (.const (.int .i64 167))), s 21 (.mv (t 0)), s 22 (.mv (t 4)), s 23 (.iadr 1 (t 21) (t 22)), s 24 (.load false 1 (t 23)), s 25 (.conv .i64 (t 24)), s 26 (.bin .add (t 20) (t 25)), s 27 (.bin .add (t 26) (.const (.int .i64 29))), s 28 (.bin .and (t 27) (.const (.int .i64 1073741823))), s 3 (.mv (t 28))])) (.region false [s 17 (.mv (t 4)), s 18 (.bin .add (t 17) (.const (.int .i64 1))), s 4 (.mv (t 18))])))))) (.seq (.region false [s 29 (.mv (t 0)), s 30 (.mv (t 3)), s 31 (.build [(.slice none 0 0), (.int .i64 (.ofNat 0)), (.int .i64 (.ofNat 0))] [(0, 1), (2, 1)] [(t 29), (t 30)]), s 32 (.box (t 31)), s 2 (.mv (t 32))]) .ret))))
def dNew.keep : List Nat := [0, 2, 3, 4]
def dNew.res : List RRes := [.tmp 2]
theorem dNew.ofI {mo : Bool} {b0 : List ABox} {f0 : Fr} {args : List AV} {Φ : AV → List ABox → Fr → Prop} (hn : Nat.ble args.length Try.f34.ntmps = true) (h : aCode (Kn mo Try.prog) dNew.keep b0.length dNew.code (doneI dNew.res Φ) ⟨argEnv 0 args, b0, f0⟩) : Abs.Ins mo Try.prog 34 b0 f0 args Φ :=
  Abs.Ins.of_ir Try.func34 rfl (by kernel_rfl) (Nat.le_of_ble_eq_true hn) (by kernel_rfl) (by kernel_rfl) h
def dByte.code : ACode := (.seq (.region false [s 2 (.mv (.const (.int .i64 0)))]) (.seq (.region false [s 4 (.mv (t 0)), s 5 (.mv (t 0)), s 6 (.fadr 0 (t 5)), s 7 (.fadr 2 (t 6)), s 8 (.load false 1 (t 7)), s 9 (.bin .mul (t 8) (.const (.int .i64 6364136223846793005))), s 10 (.bin .add (t 9) (.const (.int .i64 1442695040888963407))), s 11 (.fadr 0 (t 4)), s 12 (.fadr 2 (t 11)), ⟨none, none, (.store 1 (t 12) (t 10))⟩]) (.seq (.region true [s 13 (.mv (t 0)), s 14 (.fadr 0 (t 13)), s 15 (.fadr 2 (t 14)), s 16 (.load false 1 (t 15)), s 17 (.bin .shr (t 16) (.const (.int .u64 35))), s 18 (.mv (t 0)), s 19 (.fadr 0 (t 18)), s 20 (.fadr 2 (t 19)), s 21 (.load false 1 (t 20)), s 22 (.bin .shr (t 21) (.const (.int .u64 45))), s 23 (.bin .xor (t 17) (t 22)), s 24 (.bin .and (t 23) (.const (.int .i64 255))), s 3 (.mv (t 24))]) (.seq (.seq (.region true [s 25 (.mv (t 0)), s 26 (.fadr 0 (t 25)), s 27 (.fadr 1 (t 26)), s 28 (.load false 1 (t 27)), s 29 (.mv (t 0)), s 30 (.fadr 0 (t 29)), s 31 (.fadr 0 (t 30)), s 32 (.load false 1 (t 31)), s 33 (.len false (t 32)), s 34 (.bin .lss (t 28) (t 33))]) (.cond (t 34) (.seq (.region true [s 35 (.mv (t 3)), s 36 (.mv (t 0)), s 37 (.fadr 0 (t 36)), s 38 (.fadr 0 (t 37)), s 39 (.load false 1 (t 38)), s 40 (.mv (t 0)), s 41 (.fadr 0 (t 40)), s 42 (.fadr 1 (t 41)), s 43 (.load false 1 (t 42)), s 44 (.iadr 1 (t 39) (t 43)), s 45 (.load false 1 (t 44)), s 46 (.conv .i64 (t 45)), s 47 (.bin .add (t 35) (t 46)), s 48 (.bin .and (t 47) (.const (.int .i64 255))), s 3 (.mv (t 48))]) (.region false [s 49 (.mv (t 0)), s 50 (.mv (t 0)), s 51 (.fadr 0 (t 50)), s 52 (.fadr 1 (t 51)), s 53 (.load false 1 (t 52)), s 54 (.bin .add (t 53) (.const (.int .i64 1))), s 55 (.fadr 0 (t 49)), s 56 (.fadr 1 (t 55)), ⟨none, none, (.store 1 (t 56) (t 54))⟩])) .skip)) (.seq (.region false [s 57 (.mv (t 3)), s 2 (.mv (t 57))]) .ret)))))
def dByte.keep : List Nat := [0, 2, 3]
def dByte.res : List RRes := [.tmp 2]
theorem dByte.ofL {mo : Bool} {b0 : List ABox} {args : List AV} {Φ : AV → List ABox → Fr → Prop} (hd : noDead b0 = true) (hn : Nat.ble args.length Try.f106.ntmps = true) (h : aCode (Kn mo Try.prog) dByte.keep b0.length dByte.code (doneL dByte.res Φ) ⟨argEnv 0 args, b0, []⟩) : Abs.Lent mo Try.prog 106 b0 args Φ :=
  Abs.Lent.of_ir hd Try.func106 rfl (by kernel_rfl) (Nat.le_of_ble_eq_true hn) (by kernel_rfl) (by kernel_rfl) h
def dBelow.code : ACode := (.seq (.region false [s 4 (.mv (.const (.int .i64 0)))]) (.seq (.seq (.region false [s 8 (.mv (t 1)), s 9 (.bin .leq (t 8) (.const (.int .i64 0)))]) (.cond (t 9) (.seq (.region false [s 4 (.mv (.const (.int .i64 0)))]) .ret) .skip)) (.seq (.seq (.region false [s 10 (.mv (t 1)), s 11 (.bin .leq (t 10) (.const (.int .i64 256)))]) (.cond (t 11) (.seq (.region false [s 12 (.mv (t 0)), s 13 (.call 106 [(t 12)]), s 14 (.mv (t 1)), s 15 (.bin .rem (t 13) (t 14)), s 4 (.mv (t 15))]) .ret) .skip)) (.seq (.region false [s 16 (.mv (t 0)), s 17 (.call 106 [(t 16)]), s 5 (.mv (t 17))]) (.seq (.region false [s 18 (.mv (t 0)), s 19 (.call 106 [(t 18)]), s 6 (.mv (t 19))]) (.seq (.region false [s 20 (.mv (t 0)), s 21 (.call 106 [(t 20)]), s 7 (.mv (t 21))]) (.seq (.region false [s 22 (.mv (t 5)), s 23 (.bin .mul (t 22) (.const (.int .i64 65536))), s 24 (.mv (t 6)), s 25 (.bin .mul (t 24) (.const (.int .i64 256))), s 26 (.bin .add (t 23) (t 25)), s 27 (.mv (t 7)), s 28 (.bin .add (t 26) (t 27)), s 29 (.mv (t 1)), s 30 (.bin .rem (t 28) (t 29)), s 4 (.mv (t 30))]) .ret)))))))
def dBelow.keep : List Nat := [0, 1, 4, 5, 6, 7]
def dBelow.res : List RRes := [.tmp 4]
theorem dBelow.ofL {mo : Bool} {b0 : List ABox} {args : List AV} {Φ : AV → List ABox → Fr → Prop} (hd : noDead b0 = true) (hn : Nat.ble args.length Try.f72.ntmps = true) (h : aCode (Kn mo Try.prog) dBelow.keep b0.length dBelow.code (doneL dBelow.res Φ) ⟨argEnv 0 args, b0, []⟩) : Abs.Lent mo Try.prog 72 b0 args Φ :=
  Abs.Lent.of_ir hd Try.func72 rfl (by kernel_rfl) (Nat.le_of_ble_eq_true hn) (by kernel_rfl) (by kernel_rfl) h
def dOnce.code : ACode := (.seq (.region false [s 4 (.mv (.const (.bool false)))]) (.seq (.region false [s 5 (.mv (t 0)), s 6 (.mv (t 1)), s 7 (.call 72 [(t 5), (t 6)]), s 8 (.bin .eql (t 7) (.const (.int .i64 0))), s 4 (.mv (t 8))]) .ret))
def dOnce.keep : List Nat := [0, 1, 4]
def dOnce.res : List RRes := [.tmp 4]
theorem dOnce.ofL {mo : Bool} {b0 : List ABox} {args : List AV} {Φ : AV → List ABox → Fr → Prop} (hd : noDead b0 = true) (hn : Nat.ble args.length Try.f48.ntmps = true) (h : aCode (Kn mo Try.prog) dOnce.keep b0.length dOnce.code (doneL dOnce.res Φ) ⟨argEnv 0 args, b0, []⟩) : Abs.Lent mo Try.prog 48 b0 args Φ :=
  Abs.Lent.of_ir hd Try.func48 rfl (by kernel_rfl) (Nat.le_of_ble_eq_true hn) (by kernel_rfl) (by kernel_rfl) h
def dInt.code : ACode := (.seq (.region false [s 4 (.mv (.const (.int .i64 0)))]) (.seq (.region false [s 5 (.mv (t 1)), s 6 (.mv (t 0)), s 7 (.mv (t 1)), s 8 (.len false (t 7)), s 9 (.call 72 [(t 6), (t 8)]), s 10 (.iadr 1 (t 5) (t 9)), s 11 (.load false 1 (t 10)), s 4 (.mv (t 11))]) .ret))
def dInt.keep : List Nat := [0, 1, 4]
def dInt.res : List RRes := [.tmp 4]
theorem dInt.ofL {mo : Bool} {b0 : List ABox} {args : List AV} {Φ : AV → List ABox → Fr → Prop} (hd : noDead b0 = true) (hn : Nat.ble args.length Try.f87.ntmps = true) (h : aCode (Kn mo Try.prog) dInt.keep b0.length dInt.code (doneL dInt.res Φ) ⟨argEnv 0 args, b0, []⟩) : Abs.Lent mo Try.prog 87 b0 args Φ :=
  Abs.Lent.of_ir hd Try.func87 rfl (by kernel_rfl) (Nat.le_of_ble_eq_true hn) (by kernel_rfl) (by kernel_rfl) h
def dStr.code : ACode := (.seq (.region false [s 4 (.mv (.const (.string (.mk #[]))))]) (.seq (.region false [s 5 (.mv (t 1)), s 6 (.mv (t 0)), s 7 (.mv (t 1)), s 8 (.len false (t 7)), s 9 (.call 72 [(t 6), (t 8)]), s 10 (.iadr 1 (t 5) (t 9)), s 11 (.load false 1 (t 10)), s 4 (.mv (t 11))]) .ret))
def dStr.keep : List Nat := [0, 1, 4]
def dStr.res : List RRes := [.tmp 4]
theorem dStr.ofL {mo : Bool} {b0 : List ABox} {args : List AV} {Φ : AV → List ABox → Fr → Prop} (hd : noDead b0 = true) (hn : Nat.ble args.length Try.f89.ntmps = true) (h : aCode (Kn mo Try.prog) dStr.keep b0.length dStr.code (doneL dStr.res Φ) ⟨argEnv 0 args, b0, []⟩) : Abs.Lent mo Try.prog 89 b0 args Φ :=
  Abs.Lent.of_ir hd Try.func89 rfl (by kernel_rfl) (Nat.le_of_ble_eq_true hn) (by kernel_rfl) (by kernel_rfl) h
def dAtom.code : ACode := (.seq (.region false [s 2 (.mv (.const (.string (.mk #[]))))]) (.seq (.region false [s 3 (.mv (t 0)), s 4 (.bslice 9 1 true [(.const (.string (.mk #[97]))), (.const (.string (.mk #[98]))), (.const (.string (.mk #[99]))), (.const (.string (.mk #[49]))), (.const (.string (.mk #[50])))]), s 5 (.call 89 [(t 3), (t 4)]), s 2 (.mv (t 5))]) .ret))
def dAtom.keep : List Nat := [0, 2]
def dAtom.res : List RRes := [.tmp 2]
theorem dAtom.ofL {mo : Bool} {b0 : List ABox} {args : List AV} {Φ : AV → List ABox → Fr → Prop} (hd : noDead b0 = true) (hn : Nat.ble args.length Try.f50.ntmps = true) (h : aCode (Kn mo Try.prog) dAtom.keep b0.length dAtom.code (doneL dAtom.res Φ) ⟨argEnv 0 args, b0, []⟩) : Abs.Lent mo Try.prog 50 b0 args Φ :=
  Abs.Lent.of_ir hd Try.func50 rfl (by kernel_rfl) (Nat.le_of_ble_eq_true hn) (by kernel_rfl) (by kernel_rfl) h
def dWord.code : ACode := (.seq (.region false [s 2 (.mv (.const (.string (.mk #[]))))]) (.seq (.region false [s 3 (.mv (t 0)), s 4 (.bslice 9 1 true [(.const (.string (.mk #[97]))), (.const (.string (.mk #[98]))), (.const (.string (.mk #[111, 110]))), (.const (.string (.mk #[55]))), (.const (.string (.mk #[49, 48]))), (.const (.string (.mk #[57, 57, 57, 57]))), (.const (.string (.mk #[49, 48, 48, 48, 48]))), (.const (.string (.mk #[48, 48, 55]))), (.const (.string (.mk #[48]))), (.const (.string (.mk #[]))), (.const (.string (.mk #[65]))), (.const (.string (.mk #[63, 120]))), (.const (.string (.mk #[63, 63]))), (.const (.string (.mk #[63]))), (.const (.string (.mk #[97, 98, 99, 100, 101, 102, 103, 104]))), (.const (.string (.mk #[97, 98, 99, 100, 101, 102, 103, 104, 105]))), (.const (.string (.mk #[63, 97, 98, 99, 100, 101, 102, 103, 104]))), (.const (.string (.mk #[97, 45, 98]))), (.const (.string (.mk #[120, 49]))), (.const (.string (.mk #[49, 120]))), (.const (.string (.mk #[45, 51])))]), s 5 (.call 89 [(t 3), (t 4)]), s 2 (.mv (t 5))]) .ret))
def dWord.keep : List Nat := [0, 2]
def dWord.res : List RRes := [.tmp 2]
theorem dWord.ofL {mo : Bool} {b0 : List ABox} {args : List AV} {Φ : AV → List ABox → Fr → Prop} (hd : noDead b0 = true) (hn : Nat.ble args.length Try.f81.ntmps = true) (h : aCode (Kn mo Try.prog) dWord.keep b0.length dWord.code (doneL dWord.res Φ) ⟨argEnv 0 args, b0, []⟩) : Abs.Lent mo Try.prog 81 b0 args Φ :=
  Abs.Lent.of_ir hd Try.func81 rfl (by kernel_rfl) (Nat.le_of_ble_eq_true hn) (by kernel_rfl) (by kernel_rfl) h
def dRel.code : ACode := (.seq (.region false [s 2 (.mv (.const (.string (.mk #[])))), s 3 (.mv (.const (.int .i64 0)))]) (.seq (.region false [s 5 (.mv (t 0)), s 6 (.call 72 [(t 5), (.const (.int .i64 6))]), s 4 (.mv (t 6))]) (.seq (.heldT false [7, 8, 9, 10, 11, 12, 13, 14, 2, 3] (.alt (s 8 (.mv (t 4))) (.alt (s 12 (.mv (t 4))) (.alt (s 7 (.bslice 9 1 true [(.const (.string (.mk #[111, 110]))), (.const (.string (.mk #[111, 110]))), (.const (.string (.mk #[97, 116]))), (.const (.string (.mk #[112]))), (.const (.string (.mk #[113]))), (.const (.string (.mk #[122])))])) (.alt (s 9 (.iadr 1 (t 7) (t 8))) (.alt (s 10 (.load false 1 (t 9))) (.alt (s 2 (.mv (t 10))) (.alt (s 11 (.bslice 3 1 true [(.const (.int .i64 2)), (.const (.int .i64 2)), (.const (.int .i64 2)), (.const (.int .i64 1)), (.const (.int .i64 1)), (.const (.int .i64 0))])) (.alt (s 13 (.iadr 1 (t 11) (t 12))) (.alt (s 14 (.load false 1 (t 13))) .fin .none) .none) .none) .none) (.alt (s 11 (.bslice 3 1 true [(.const (.int .i64 2)), (.const (.int .i64 2)), (.const (.int .i64 2)), (.const (.int .i64 1)), (.const (.int .i64 1)), (.const (.int .i64 0))])) (.alt (s 10 (.load false 1 (t 9))) (.alt (s 2 (.mv (t 10))) (.alt (s 13 (.iadr 1 (t 11) (t 12))) (.alt (s 14 (.load false 1 (t 13))) .fin .none) .none) .none) (.alt (s 13 (.iadr 1 (t 11) (t 12))) (.alt (s 10 (.load false 1 (t 9))) (.alt (s 2 (.mv (t 10))) (.alt (s 14 (.load false 1 (t 13))) .fin .none) .none) (.alt (s 14 (.load false 1 (t 13))) (.alt (s 10 (.load false 1 (t 9))) (.alt (s 2 (.mv (t 10))) .fin .none) .none) .none)) .none)) .none)) (.alt (s 11 (.bslice 3 1 true [(.const (.int .i64 2)), (.const (.int .i64 2)), (.const (.int .i64 2)), (.const (.int .i64 1)), (.const (.int .i64 1)), (.const (.int .i64 0))])) (.alt (s 9 (.iadr 1 (t 7) (t 8))) (.alt (s 10 (.load false 1 (t 9))) (.alt (s 2 (.mv (t 10))) (.alt (s 13 (.iadr 1 (t 11) (t 12))) (.alt (s 14 (.load false 1 (t 13))) .fin .none) .none) .none) (.alt (s 13 (.iadr 1 (t 11) (t 12))) (.alt (s 10 (.load false 1 (t 9))) (.alt (s 2 (.mv (t 10))) (.alt (s 14 (.load false 1 (t 13))) .fin .none) .none) (.alt (s 14 (.load false 1 (t 13))) (.alt (s 10 (.load false 1 (t 9))) (.alt (s 2 (.mv (t 10))) .fin .none) .none) .none)) .none)) (.alt (s 13 (.iadr 1 (t 11) (t 12))) (.alt (s 9 (.iadr 1 (t 7) (t 8))) (.alt (s 10 (.load false 1 (t 9))) (.alt (s 2 (.mv (t 10))) (.alt (s 14 (.load false 1 (t 13))) .fin .none) .none) (.alt (s 14 (.load false 1 (t 13))) (.alt (s 10 (.load false 1 (t 9))) (.alt (s 2 (.mv (t 10))) .fin .none) .none) .none)) (.alt (s 14 (.load false 1 (t 13))) (.alt (s 9 (.iadr 1 (t 7) (t 8))) (.alt (s 10 (.load false 1 (t 9))) (.alt (s 2 (.mv (t 10))) .fin .none) .none) .none) .none)) .none)) .none)) (.alt (s 11 (.bslice 3 1 true [(.const (.int .i64 2)), (.const (.int .i64 2)), (.const (.int .i64 2)), (.const (.int .i64 1)), (.const (.int .i64 1)), (.const (.int .i64 0))])) (.alt (s 7 (.bslice 9 1 true [(.const (.string (.mk #[111, 110]))), (.const (.string (.mk #[111, 110]))), (.const (.string (.mk #[97, 116]))), (.const (.string (.mk #[112]))), (.const (.string (.mk #[113]))), (.const (.string (.mk #[122])))])) (.alt (s 9 (.iadr 1 (t 7) (t 8))) (.alt (s 10 (.load false 1 (t 9))) (.alt (s 2 (.mv (t 10))) (.alt (s 13 (.iadr 1 (t 11) (t 12))) (.alt (s 14 (.load false 1 (t 13))) .fin .none) .none) .none) (.alt (s 13 (.iadr 1 (t 11) (t 12))) (.alt (s 10 (.load false 1 (t 9))) (.alt (s 2 (.mv (t 10))) (.alt (s 14 (.load false 1 (t 13))) .fin .none) .none) (.alt (s 14 (.load false 1 (t 13))) (.alt (s 10 (.load false 1 (t 9))) (.alt (s 2 (.mv (t 10))) .fin .none) .none) .none)) .none)) (.alt (s 13 (.iadr 1 (t 11) (t 12))) (.alt (s 9 (.iadr 1 (t 7) (t 8))) (.alt (s 10 (.load false 1 (t 9))) (.alt (s 2 (.mv (t 10))) (.alt (s 14 (.load false 1 (t 13))) .fin .none) .none) (.alt (s 14 (.load false 1 (t 13))) (.alt (s 10 (.load false 1 (t 9))) (.alt (s 2 (.mv (t 10))) .fin .none) .none) .none)) (.alt (s 14 (.load false 1 (t 13))) (.alt (s 9 (.iadr 1 (t 7) (t 8))) (.alt (s 10 (.load false 1 (t 9))) (.alt (s 2 (.mv (t 10))) .fin .none) .none) .none) .none)) .none)) (.alt (s 13 (.iadr 1 (t 11) (t 12))) (.alt (s 7 (.bslice 9 1 true [(.const (.string (.mk #[111, 110]))), (.const (.string (.mk #[111, 110]))), (.const (.string (.mk #[97, 116]))), (.const (.string (.mk #[112]))), (.const (.string (.mk #[113]))), (.const (.string (.mk #[122])))])) (.alt (s 9 (.iadr 1 (t 7) (t 8))) (.alt (s 10 (.load false 1 (t 9))) (.alt (s 2 (.mv (t 10))) (.alt (s 14 (.load false 1 (t 13))) .fin .none) .none) (.alt (s 14 (.load false 1 (t 13))) (.alt (s 10 (.load false 1 (t 9))) (.alt (s 2 (.mv (t 10))) .fin .none) .none) .none)) (.alt (s 14 (.load false 1 (t 13))) (.alt (s 9 (.iadr 1 (t 7) (t 8))) (.alt (s 10 (.load false 1 (t 9))) (.alt (s 2 (.mv (t 10))) .fin .none) .none) .none) .none)) (.alt (s 14 (.load false 1 (t 13))) (.alt (s 7 (.bslice 9 1 true [(.const (.string (.mk #[111, 110]))), (.const (.string (.mk #[111, 110]))), (.const (.string (.mk #[97, 116]))), (.const (.string (.mk #[112]))), (.const (.string (.mk #[113]))), (.const (.string (.mk #[122])))])) (.alt (s 9 (.iadr 1 (t 7) (t 8))) (.alt (s 10 (.load false 1 (t 9))) (.alt (s 2 (.mv (t 10))) .fin .none) .none) .none) .none) .none)) .none)) .none)) .none) .none) [s 3 (.mv (t 14))]) .ret)))
def dRel.keep : List Nat := [0, 2, 3, 4]
def dRel.res : List RRes := [.tmp 2, .tmp 3]
theorem dRel.ofL {mo : Bool} {b0 : List ABox} {args : List AV} {Φ : AV → List ABox → Fr → Prop} (hd : noDead b0 = true) (hn : Nat.ble args.length Try.f118.ntmps = true) (h : aCode (Kn mo Try.prog) dRel.keep b0.length dRel.code (doneL dRel.res Φ) ⟨argEnv 0 args, b0, []⟩) : Abs.Lent mo Try.prog 118 b0 args Φ :=
  Abs.Lent.of_ir hd Try.func118 rfl (by kernel_rfl) (Nat.le_of_ble_eq_true hn) (by kernel_rfl) (by kernel_rfl) h
def dFact.code : ACode := (.seq (.region false [s 2 (.alloc [(.string (.mk (.mk []))), (.slice none 0 0)])]) (.seq (.region false [s 8 (.mv (t 0)), s 9 (.call 118 [(t 8)]), s 7 (.mv (t 9)), s 10 (.extract (t 7) 0), s 11 (.extract (t 7) 1), s 3 (.mv (t 10)), s 4 (.mv (t 11))]) (.seq (.region false [s 12 (.mv (t 3)), s 13 (.build [(.string (.mk (.mk []))), (.slice none 0 0)] [(0, 1)] [(t 12)]), s 5 (.alloc [(.string (.mk (.mk []))), (.slice none 0 0)]), ⟨none, none, (.store 2 (t 5) (t 13))⟩]) (.seq (.seq (.region false [s 6 (.mv (.const (.int .i64 0)))]) (.block 0 (.loop (.seq (.seq (.region false [s 14 (.mv (t 6)), s 15 (.mv (t 4)), s 16 (.bin .lss (t 14) (t 15))]) (.cond (t 16) .skip (.exit 0))) (.seq (.block 1 (.heldT true [19, 20, 21, 22, 23, 24, 25] (.alt (s 21 (.mv (t 0))) (.alt (s 19 (.fadr 1 (t 5))) (.alt (s 20 (.load false 1 (t 19))) (.alt (s 22 (.call 50 [(t 21)])) (.alt (s 23 (.bslice 9 1 false [(t 22)])) .fin .none) .none) (.alt (s 22 (.call 50 [(t 21)])) (.alt (s 20 (.load false 1 (t 19))) (.alt (s 23 (.bslice 9 1 false [(t 22)])) .fin .none) (.alt (s 23 (.bslice 9 1 false [(t 22)])) (.alt (s 20 (.load false 1 (t 19))) .fin .none) .none)) .none)) (.alt (s 22 (.call 50 [(t 21)])) (.alt (s 19 (.fadr 1 (t 5))) (.alt (s 20 (.load false 1 (t 19))) (.alt (s 23 (.bslice 9 1 false [(t 22)])) .fin .none) (.alt (s 23 (.bslice 9 1 false [(t 22)])) (.alt (s 20 (.load false 1 (t 19))) .fin .none) .none)) (.alt (s 23 (.bslice 9 1 false [(t 22)])) (.alt (s 19 (.fadr 1 (t 5))) (.alt (s 20 (.load false 1 (t 19))) .fin .none) .none) .none)) .none)) .none) [s 24 (.append 9 1 16 (t 20) (t 23)), s 25 (.fadr 1 (t 5)), ⟨none, none, (.store 1 (t 25) (t 24))⟩])) (.region false [s 17 (.mv (t 6)), s 18 (.bin .add (t 17) (.const (.int .i64 1))), s 6 (.mv (t 18))])))))) (.seq (.region false [s 26 (.load true 2 (t 5)), ⟨none, none, (.store 2 (t 2) (t 26))⟩]) .ret)))))
def dFact.keep : List Nat := [0, 2, 3, 4, 5, 6]
def dFact.res : List RRes := [.cell 2 true 2]
theorem dFact.ofL {mo : Bool} {b0 : List ABox} {args : List AV} {Φ : AV → List ABox → Fr → Prop} (hd : noDead b0 = true) (hn : Nat.ble args.length Try.f80.ntmps = true) (h : aCode (Kn mo Try.prog) dFact.keep b0.length dFact.code (doneL dFact.res Φ) ⟨argEnv 0 args, b0, []⟩) : Abs.Lent mo Try.prog 80 b0 args Φ :=
  Abs.Lent.of_ir hd Try.func80 rfl (by kernel_rfl) (Nat.le_of_ble_eq_true hn) (by kernel_rfl) (by kernel_rfl) h
def dAnyFact.code : ACode := (.seq (.region false [s 2 (.alloc [(.string (.mk (.mk []))), (.slice none 0 0)])]) (.seq (.region false [s 4 (.mv (t 0)), s 5 (.call 80 [(t 4)]), s 3 (.alloc [(.string (.mk (.mk []))), (.slice none 0 0)]), ⟨none, none, (.store 2 (t 3) (t 5))⟩]) (.seq (.seq (.region false [s 6 (.mv (t 0)), s 7 (.call 72 [(t 6), (.const (.int .i64 10))])]) (.block 0 (.seq (.region false [s 9 (.bin .eql (t 7) (.const (.int .i64 0))), s 8 (.mv (t 9))]) (.cond (t 8) (.region false [s 10 (.mv (t 0)), s 11 (.call 81 [(t 10)]), s 12 (.fadr 0 (t 3)), ⟨none, none, (.store 1 (t 12) (t 11))⟩]) (.seq (.region false [s 14 (.bin .eql (t 7) (.const (.int .i64 1))), s 13 (.mv (t 14))]) (.cond (t 13) (.heldT true [15, 16, 17, 18, 19, 20, 21] (.alt (s 17 (.mv (t 0))) (.alt (s 15 (.fadr 1 (t 3))) (.alt (s 16 (.load false 1 (t 15))) (.alt (s 18 (.call 81 [(t 17)])) (.alt (s 19 (.bslice 9 1 false [(t 18)])) .fin .none) .none) (.alt (s 18 (.call 81 [(t 17)])) (.alt (s 16 (.load false 1 (t 15))) (.alt (s 19 (.bslice 9 1 false [(t 18)])) .fin .none) (.alt (s 19 (.bslice 9 1 false [(t 18)])) (.alt (s 16 (.load false 1 (t 15))) .fin .none) .none)) .none)) (.alt (s 18 (.call 81 [(t 17)])) (.alt (s 15 (.fadr 1 (t 3))) (.alt (s 16 (.load false 1 (t 15))) (.alt (s 19 (.bslice 9 1 false [(t 18)])) .fin .none) (.alt (s 19 (.bslice 9 1 false [(t 18)])) (.alt (s 16 (.load false 1 (t 15))) .fin .none) .none)) (.alt (s 19 (.bslice 9 1 false [(t 18)])) (.alt (s 15 (.fadr 1 (t 3))) (.alt (s 16 (.load false 1 (t 15))) .fin .none) .none) .none)) .none)) .none) [s 20 (.append 9 1 16 (t 16) (t 19)), s 21 (.fadr 1 (t 3)), ⟨none, none, (.store 1 (t 21) (t 20))⟩]) (.seq (.region false [s 23 (.bin .eql (t 7) (.const (.int .i64 2))), s 22 (.mv (t 23))]) (.cond (t 22) (.region false [s 24 (.bslice 9 1 true [(.const (.string (.mk #[97]))), (.const (.string (.mk #[98]))), (.const (.string (.mk #[99]))), (.const (.string (.mk #[97])))]), s 25 (.mv (t 0)), s 26 (.call 72 [(t 25), (.const (.int .i64 5))]), s 27 (.slice false 1 (t 24) none (some (t 26))), s 28 (.fadr 1 (t 3)), ⟨none, none, (.store 1 (t 28) (t 27))⟩]) .skip)))))))) (.seq (.region false [s 29 (.load true 2 (t 3)), ⟨none, none, (.store 2 (t 2) (t 29))⟩]) .ret))))
def dAnyFact.keep : List Nat := [0, 2, 3, 7]
def dAnyFact.res : List RRes := [.cell 2 true 2]
theorem dAnyFact.ofL {mo : Bool} {b0 : List ABox} {args : List AV} {Φ : AV → List ABox → Fr → Prop} (hd : noDead b0 = true) (hn : Nat.ble args.length Try.f42.ntmps = true) (h : aCode (Kn mo Try.prog) dAnyFact.keep b0.length dAnyFact.code (doneL dAnyFact.res Φ) ⟨argEnv 0 args, b0, []⟩) : Abs.Lent mo Try.prog 42 b0 args Φ :=
  Abs.Lent.of_ir hd Try.func42 rfl (by kernel_rfl) (Nat.le_of_ble_eq_true hn) (by kernel_rfl) (by kernel_rfl) h
def dFList.code : ACode := (.seq (.region false [s 2 (.mv (.const (.slice none 0 0)))]) (.seq (.region false [s 5 (.mv (t 0)), s 6 (.call 101 [(t 5), (.const (.int .i64 6))]), s 3 (.mv (t 6))]) (.seq (.seq (.region false [s 7 (.mv (t 0)), s 8 (.call 72 [(t 7), (.const (.int .i64 8))])]) (.block 0 (.seq (.region false [s 10 (.bin .eql (t 8) (.const (.int .i64 0))), s 9 (.mv (t 10))]) (.cond (t 9) (.region false [s 11 (.mv (t 3)), s 12 (.mv (t 0)), s 13 (.call 42 [(t 12)]), s 14 (.bslice 27 2 false [(t 13)]), s 15 (.append 27 2 40 (t 11) (t 14)), s 3 (.mv (t 15))]) (.seq (.region false [s 17 (.bin .eql (t 8) (.const (.int .i64 1))), s 16 (.mv (t 17))]) (.cond (t 16) (.seq (.seq (.region false [s 4 (.mv (.const (.int .i64 0)))]) (.block 1 (.loop (.seq (.seq (.region false [s 18 (.mv (t 4)), s 19 (.bin .lss (t 18) (.const (.int .i64 25)))]) (.cond (t 19) .skip (.exit 1))) (.seq (.block 2 (.region false [s 22 (.mv (t 3)), s 23 (.mv (t 4)), s 24 (.call 88 [(t 23)]), s 25 (.bslice 9 1 true [(t 24)]), s 26 (.build [(.string (.mk (.mk []))), (.slice none 0 0)] [(0, 1), (1, 1)] [(.const (.string (.mk #[110]))), (t 25)]), s 27 (.call 102 [(t 22), (t 26)]), s 3 (.mv (t 27))])) (.region false [s 20 (.mv (t 4)), s 21 (.bin .add (t 20) (.const (.int .i64 1))), s 4 (.mv (t 21))])))))) (.region false [s 28 (.mv (t 3)), s 29 (.mv (t 0)), s 30 (.bslice 3 1 true [(.const (.int .i64 23)), (.const (.int .i64 24)), (.const (.int .i64 25))]), s 31 (.call 87 [(t 29), (t 30)]), s 32 (.slice false 2 (t 28) none (some (t 31))), s 3 (.mv (t 32))])) .skip)))))) (.seq (.region false [s 33 (.mv (t 3)), s 2 (.mv (t 33))]) .ret))))
def dFList.keep : List Nat := [0, 2, 3, 4, 8]
def dFList.res : List RRes := [.tmp 2]
theorem dFList.ofL {mo : Bool} {b0 : List ABox} {args : List AV} {Φ : AV → List ABox → Fr → Prop} (hd : noDead b0 = true) (hn : Nat.ble args.length Try.f65.ntmps = true) (h : aCode (Kn mo Try.prog) dFList.keep b0.length dFList.code (doneL dFList.res Φ) ⟨argEnv 0 args, b0, []⟩) : Abs.Lent mo Try.prog 65 b0 args Φ :=
  Abs.Lent.of_ir hd Try.func65 rfl (by kernel_rfl) (Nat.le_of_ble_eq_true hn) (by kernel_rfl) (by kernel_rfl) h
def dTerm.code : ACode := (.seq (.region false [s 2 (.mv (.const (.string (.mk #[]))))]) (.seq (.seq (.region false [s 3 (.mv (t 0)), s 4 (.call 48 [(t 3), (.const (.int .i64 4))])]) (.cond (t 4) (.seq (.region false [s 5 (.mv (t 0)), s 6 (.call 50 [(t 5)]), s 2 (.mv (t 6))]) .ret) .skip)) (.seq (.region false [s 7 (.mv (t 0)), s 8 (.bslice 9 1 true [(.const (.string (.mk #[63, 120]))), (.const (.string (.mk #[63, 121]))), (.const (.string (.mk #[63, 122])))]), s 9 (.call 89 [(t 7), (t 8)]), s 2 (.mv (t 9))]) .ret)))
def dTerm.keep : List Nat := [0, 2]
def dTerm.res : List RRes := [.tmp 2]
theorem dTerm.ofL {mo : Bool} {b0 : List ABox} {args : List AV} {Φ : AV → List ABox → Fr → Prop} (hd : noDead b0 = true) (hn : Nat.ble args.length Try.f120.ntmps = true) (h : aCode (Kn mo Try.prog) dTerm.keep b0.length dTerm.code (doneL dTerm.res Φ) ⟨argEnv 0 args, b0, []⟩) : Abs.Lent mo Try.prog 120 b0 args Φ :=
  Abs.Lent.of_ir hd Try.func120 rfl (by kernel_rfl) (Nat.le_of_ble_eq_true hn) (by kernel_rfl) (by kernel_rfl) h
def dPat.code : ACode := (.seq (.region false [s 2 (.alloc [(.string (.mk (.mk []))), (.slice none 0 0)])]) (.seq (.region false [s 8 (.mv (t 0)), s 9 (.call 118 [(t 8)]), s 7 (.mv (t 9)), s 10 (.extract (t 7) 0), s 11 (.extract (t 7) 1), s 3 (.mv (t 10)), s 4 (.mv (t 11))]) (.seq (.region false [s 12 (.mv (t 3)), s 13 (.build [(.string (.mk (.mk []))), (.slice none 0 0)] [(0, 1)] [(t 12)]), s 5 (.alloc [(.string (.mk (.mk []))), (.slice none 0 0)]), ⟨none, none, (.store 2 (t 5) (t 13))⟩]) (.seq (.seq (.region false [s 6 (.mv (.const (.int .i64 0)))]) (.block 0 (.loop (.seq (.seq (.region false [s 14 (.mv (t 6)), s 15 (.mv (t 4)), s 16 (.bin .lss (t 14) (t 15))]) (.cond (t 16) .skip (.exit 0))) (.seq (.block 1 (.heldT true [19, 20, 21, 22, 23, 24, 25] (.alt (s 21 (.mv (t 0))) (.alt (s 19 (.fadr 1 (t 5))) (.alt (s 20 (.load false 1 (t 19))) (.alt (s 22 (.call 120 [(t 21)])) (.alt (s 23 (.bslice 9 1 false [(t 22)])) .fin .none) .none) (.alt (s 22 (.call 120 [(t 21)])) (.alt (s 20 (.load false 1 (t 19))) (.alt (s 23 (.bslice 9 1 false [(t 22)])) .fin .none) (.alt (s 23 (.bslice 9 1 false [(t 22)])) (.alt (s 20 (.load false 1 (t 19))) .fin .none) .none)) .none)) (.alt (s 22 (.call 120 [(t 21)])) (.alt (s 19 (.fadr 1 (t 5))) (.alt (s 20 (.load false 1 (t 19))) (.alt (s 23 (.bslice 9 1 false [(t 22)])) .fin .none) (.alt (s 23 (.bslice 9 1 false [(t 22)])) (.alt (s 20 (.load false 1 (t 19))) .fin .none) .none)) (.alt (s 23 (.bslice 9 1 false [(t 22)])) (.alt (s 19 (.fadr 1 (t 5))) (.alt (s 20 (.load false 1 (t 19))) .fin .none) .none) .none)) .none)) .none) [s 24 (.append 9 1 16 (t 20) (t 23)), s 25 (.fadr 1 (t 5)), ⟨none, none, (.store 1 (t 25) (t 24))⟩])) (.region false [s 17 (.mv (t 6)), s 18 (.bin .add (t 17) (.const (.int .i64 1))), s 6 (.mv (t 18))])))))) (.seq (.region false [s 26 (.load true 2 (t 5)), ⟨none, none, (.store 2 (t 2) (t 26))⟩]) .ret)))))
def dPat.keep : List Nat := [0, 2, 3, 4, 5, 6]
def dPat.res : List RRes := [.cell 2 true 2]
theorem dPat.ofL {mo : Bool} {b0 : List ABox} {args : List AV} {Φ : AV → List ABox → Fr → Prop} (hd : noDead b0 = true) (hn : Nat.ble args.length Try.f85.ntmps = true) (h : aCode (Kn mo Try.prog) dPat.keep b0.length dPat.code (doneL dPat.res Φ) ⟨argEnv 0 args, b0, []⟩) : Abs.Lent mo Try.prog 85 b0 args Φ :=
  Abs.Lent.of_ir hd Try.func85 rfl (by kernel_rfl) (Nat.le_of_ble_eq_true hn) (by kernel_rfl) (by kernel_rfl) h
def dAnyPat.code : ACode := (.seq (.region false [s 2 (.alloc [(.string (.mk (.mk []))), (.slice none 0 0)])]) (.seq (.region false [s 4 (.mv (t 0)), s 5 (.call 85 [(t 4)]), s 3 (.alloc [(.string (.mk (.mk []))), (.slice none 0 0)]), ⟨none, none, (.store 2 (t 3) (t 5))⟩]) (.seq (.seq (.region false [s 6 (.mv (t 0)), s 7 (.call 72 [(t 6), (.const (.int .i64 10))])]) (.block 0 (.seq (.region false [s 9 (.bin .eql (t 7) (.const (.int .i64 0))), s 8 (.mv (t 9))]) (.cond (t 8) (.region false [s 10 (.mv (t 0)), s 11 (.call 81 [(t 10)]), s 12 (.fadr 0 (t 3)), ⟨none, none, (.store 1 (t 12) (t 11))⟩]) (.seq (.region false [s 14 (.bin .eql (t 7) (.const (.int .i64 1))), s 13 (.mv (t 14))]) (.cond (t 13) (.heldT true [15, 16, 17, 18, 19, 20, 21] (.alt (s 17 (.mv (t 0))) (.alt (s 15 (.fadr 1 (t 3))) (.alt (s 16 (.load false 1 (t 15))) (.alt (s 18 (.call 81 [(t 17)])) (.alt (s 19 (.bslice 9 1 false [(t 18)])) .fin .none) .none) (.alt (s 18 (.call 81 [(t 17)])) (.alt (s 16 (.load false 1 (t 15))) (.alt (s 19 (.bslice 9 1 false [(t 18)])) .fin .none) (.alt (s 19 (.bslice 9 1 false [(t 18)])) (.alt (s 16 (.load false 1 (t 15))) .fin .none) .none)) .none)) (.alt (s 18 (.call 81 [(t 17)])) (.alt (s 15 (.fadr 1 (t 3))) (.alt (s 16 (.load false 1 (t 15))) (.alt (s 19 (.bslice 9 1 false [(t 18)])) .fin .none) (.alt (s 19 (.bslice 9 1 false [(t 18)])) (.alt (s 16 (.load false 1 (t 15))) .fin .none) .none)) (.alt (s 19 (.bslice 9 1 false [(t 18)])) (.alt (s 15 (.fadr 1 (t 3))) (.alt (s 16 (.load false 1 (t 15))) .fin .none) .none) .none)) .none)) .none) [s 20 (.append 9 1 16 (t 16) (t 19)), s 21 (.fadr 1 (t 3)), ⟨none, none, (.store 1 (t 21) (t 20))⟩]) (.seq (.region false [s 23 (.bin .eql (t 7) (.const (.int .i64 2))), s 22 (.mv (t 23))]) (.cond (t 22) (.region false [s 24 (.bslice 9 1 true [(.const (.string (.mk #[63, 120]))), (.const (.string (.mk #[63, 120]))), (.const (.string (.mk #[63, 121]))), (.const (.string (.mk #[63, 120])))]), s 25 (.mv (t 0)), s 26 (.call 72 [(t 25), (.const (.int .i64 5))]), s 27 (.slice false 1 (t 24) none (some (t 26))), s 28 (.fadr 1 (t 3)), ⟨none, none, (.store 1 (t 28) (t 27))⟩]) .skip)))))))) (.seq (.region false [s 29 (.load true 2 (t 3)), ⟨none, none, (.store 2 (t 2) (t 29))⟩]) .ret))))
def dAnyPat.keep : List Nat := [0, 2, 3, 7]
def dAnyPat.res : List RRes := [.cell 2 true 2]
theorem dAnyPat.ofL {mo : Bool} {b0 : List ABox} {args : List AV} {Φ : AV → List ABox → Fr → Prop} (hd : noDead b0 = true) (hn : Nat.ble args.length Try.f46.ntmps = true) (h : aCode (Kn mo Try.prog) dAnyPat.keep b0.length dAnyPat.code (doneL dAnyPat.res Φ) ⟨argEnv 0 args, b0, []⟩) : Abs.Lent mo Try.prog 46 b0 args Φ :=
  Abs.Lent.of_ir hd Try.func46 rfl (by kernel_rfl) (Nat.le_of_ble_eq_true hn) (by kernel_rfl) (by kernel_rfl) h
def dBind.code : ACode := (.seq (.region false [s 2 (.mv (.const (.slice none 0 0)))]) (.seq (.region false [s 6 (.bslice 50 2 true []), s 3 (.mv (t 6))]) (.seq (.seq (.region false [s 7 (.bslice 9 1 true [(.const (.string (.mk #[63, 120]))), (.const (.string (.mk #[63, 121]))), (.const (.string (.mk #[63, 122])))]), s 8 (.len false (t 7)), s 9 (.mv (.const (.int .i64 0)))]) (.block 0 (.loop (.seq (.region false [s 10 (.bin .lss (t 9) (t 8))]) (.seq (.cond (t 10) .skip (.exit 0)) (.seq (.block 1 (.seq (.region false [s 11 (.iadr 1 (t 7) (t 9)), s 12 (.load false 1 (t 11)), s 5 (.mv (t 12))]) (.seq (.region false [s 13 (.mv (t 0)), s 14 (.call 48 [(t 13), (.const (.int .i64 2))])]) (.cond (t 14) (.region false [s 15 (.mv (t 3)), s 16 (.mv (t 5)), s 17 (.mv (t 0)), s 18 (.call 50 [(t 17)]), s 19 (.build [(.string (.mk (.mk []))), (.string (.mk (.mk [])))] [(0, 1), (1, 1)] [(t 16), (t 18)]), s 20 (.bslice 50 2 false [(t 19)]), s 21 (.append 50 2 32 (t 15) (t 20)), s 3 (.mv (t 21))]) .skip)))) (.region false [s 22 (.bin .add (t 9) (.const (.int .i64 1))), s 9 (.mv (t 22))]))))))) (.seq (.region false [s 23 (.mv (t 3)), s 2 (.mv (t 23))]) .ret))))
def dBind.keep : List Nat := [0, 2, 3, 5, 7, 8, 9, 10]
def dBind.res : List RRes := [.tmp 2]
theorem dBind.ofL {mo : Bool} {b0 : List ABox} {args : List AV} {Φ : AV → List ABox → Fr → Prop} (hd : noDead b0 = true) (hn : Nat.ble args.length Try.f86.ntmps = true) (h : aCode (Kn mo Try.prog) dBind.keep b0.length dBind.code (doneL dBind.res Φ) ⟨argEnv 0 args, b0, []⟩) : Abs.Lent mo Try.prog 86 b0 args Φ :=
  Abs.Lent.of_ir hd Try.func86 rfl (by kernel_rfl) (Nat.le_of_ble_eq_true hn) (by kernel_rfl) (by kernel_rfl) h
def dAnyBind.code : ACode := (.seq (.region false [s 2 (.mv (.const (.slice none 0 0)))]) (.seq (.region false [s 6 (.mv (t 0)), s 7 (.call 86 [(t 6)]), s 3 (.mv (t 7))]) (.seq (.seq (.region false [s 8 (.mv (t 0)), s 9 (.call 72 [(t 8), (.const (.int .i64 10))])]) (.block 0 (.seq (.region false [s 11 (.bin .eql (t 9) (.const (.int .i64 0))), s 10 (.mv (t 11))]) (.cond (t 10) (.region false [s 12 (.mv (t 3)), s 13 (.mv (t 0)), s 14 (.call 81 [(t 13)]), s 15 (.mv (t 0)), s 16 (.call 81 [(t 15)]), s 17 (.build [(.string (.mk (.mk []))), (.string (.mk (.mk [])))] [(0, 1), (1, 1)] [(t 14), (t 16)]), s 18 (.bslice 50 2 false [(t 17)]), s 19 (.append 50 2 32 (t 12) (t 18)), s 3 (.mv (t 19))]) (.seq (.region false [s 21 (.bin .eql (t 9) (.const (.int .i64 1))), s 20 (.mv (t 21))]) (.cond (t 20) (.seq (.region false [s 22 (.bslice 50 2 true []), s 3 (.mv (t 22))]) (.seq (.region false [s 23 (.mv (t 0)), s 24 (.bslice 3 1 true [(.const (.int .i64 5)), (.const (.int .i64 6)), (.const (.int .i64 7))]), s 25 (.call 87 [(t 23), (t 24)]), s 4 (.mv (t 25))]) (.seq (.region false [s 5 (.mv (.const (.int .i64 0)))]) (.block 1 (.loop (.seq (.seq (.region false [s 26 (.mv (t 5)), s 27 (.mv (t 4)), s 28 (.bin .lss (t 26) (t 27))]) (.cond (t 28) .skip (.exit 1))) (.seq (.block 2 (.region false [s 31 (.mv (t 3)), s 32 (.mv (t 5)), s 33 (.call 88 [(t 32)]), s 34 (.bin .add (.const (.string (.mk #[63, 118]))) (t 33)), s 35 (.mv (t 0)), s 36 (.call 50 [(t 35)]), s 37 (.build [(.string (.mk (.mk []))), (.string (.mk (.mk [])))] [(0, 1), (1, 1)] [(t 34), (t 36)]), s 38 (.bslice 50 2 false [(t 37)]), s 39 (.append 50 2 32 (t 31) (t 38)), s 3 (.mv (t 39))])) (.region false [s 29 (.mv (t 5)), s 30 (.bin .add (t 29) (.const (.int .i64 1))), s 5 (.mv (t 30))])))))))) .skip)))))) (.seq (.region false [s 40 (.mv (t 3)), s 2 (.mv (t 40))]) .ret))))
def dAnyBind.keep : List Nat := [0, 2, 3, 4, 5, 9]
def dAnyBind.res : List RRes := [.tmp 2]
theorem dAnyBind.ofL {mo : Bool} {b0 : List ABox} {args : List AV} {Φ : AV → List ABox → Fr → Prop} (hd : noDead b0 = true) (hn : Nat.ble args.length Try.f47.ntmps = true) (h : aCode (Kn mo Try.prog) dAnyBind.keep b0.length dAnyBind.code (doneL dAnyBind.res Φ) ⟨argEnv 0 args, b0, []⟩) : Abs.Lent mo Try.prog 47 b0 args Φ :=
  Abs.Lent.of_ir hd Try.func47 rfl (by kernel_rfl) (Nat.le_of_ble_eq_true hn) (by kernel_rfl) (by kernel_rfl) h
def DrawCompareFacts.code : ACode := (.seq (.region false [s 2 (.alloc [(.string (.mk (.mk []))), (.slice none 0 0)]), s 3 (.alloc [(.string (.mk (.mk []))), (.slice none 0 0)])]) (.seq (.region false [s 5 (.mv (t 0)), s 6 (.call 34 [(t 5)]), s 4 (.mv (t 6))]) (.seq (.region false [s 7 (.mv (t 4)), s 8 (.call 42 [(t 7)]), s 9 (.mv (t 4)), s 10 (.call 42 [(t 9)]), ⟨none, none, (.store 2 (t 2) (t 8))⟩, ⟨none, none, (.store 2 (t 3) (t 10))⟩]) .ret)))
def DrawCompareFacts.keep : List Nat := [0, 2, 3, 4]
def DrawCompareFacts.res : List RRes := [.cell 2 true 2, .cell 3 true 2]
theorem DrawCompareFacts.of {mo : Bool} {args : List AV} {r : AV} {frs : Fr} (hn : Nat.ble args.length Try.f15.ntmps = true) (h : aCode (Kn mo Try.prog) DrawCompareFacts.keep 0 DrawCompareFacts.code (doneK DrawCompareFacts.res r frs) ⟨argEnv 0 args, [], []⟩) : Abs.Ret mo Try.prog 15 args r frs :=
  Abs.Ret.of_ir Try.func15 rfl (by kernel_rfl) (Nat.le_of_ble_eq_true hn) (by kernel_rfl) (by kernel_rfl) h
theorem DrawCompareFacts.ofS {mo : Bool} {args : List AV} {r : AV} (hr : isScalR r = true) (hn : Nat.ble args.length Try.f15.ntmps = true) (h : aCode (Kn mo Try.prog) DrawCompareFacts.keep 0 DrawCompareFacts.code (doneS DrawCompareFacts.res r) ⟨argEnv 0 args, [], []⟩) : Abs.Ret mo Try.prog 15 args r [] :=
  Abs.Ret.of_irS hr Try.func15 rfl (by kernel_rfl) (Nat.le_of_ble_eq_true hn) (by kernel_rfl) (by kernel_rfl) h
theorem DrawCompareFacts.ofL {mo : Bool} {b0 : List ABox} {args : List AV} {Φ : AV → List ABox → Fr → Prop} (hd : noDead b0 = true) (hn : Nat.ble args.length Try.f15.ntmps = true) (h : aCode (Kn mo Try.prog) DrawCompareFacts.keep b0.length DrawCompareFacts.code (doneL DrawCompareFacts.res Φ) ⟨argEnv 0 args, b0, []⟩) : Abs.Lent mo Try.prog 15 b0 args Φ :=
  Abs.Lent.of_ir hd Try.func15 rfl (by kernel_rfl) (Nat.le_of_ble_eq_true hn) (by kernel_rfl) (by kernel_rfl) h
abbrev DrawCompareFacts.Lent (b0 : List ABox) (args : List AV) (Φ : AV → List ABox → Fr → Prop) : Prop := Abs.Lent true Try.prog 15 b0 args Φ
abbrev DrawCompareFacts.Own (args : List AV) (x : Tr) : Prop := Abs.Own true Try.prog 15 args x
abbrev DrawCompareFacts.OwnN (args : List AV) (x : Tr) : Prop := Abs.Own false Try.prog 15 args x
abbrev DrawCompareFacts.Ret (args : List AV) (r : AV) (frs : Fr) : Prop := Abs.Ret true Try.prog 15 args r frs
abbrev DrawCompareFacts.RetN (args : List AV) (r : AV) (frs : Fr) : Prop := Abs.Ret false Try.prog 15 args r frs
def DrawFindFact.code : ACode := (.seq (.region false [s 2 (.mv (.const (.slice none 0 0))), s 3 (.alloc [(.string (.mk (.mk []))), (.slice none 0 0)])]) (.seq (.region false [s 4 (.mv (t 0)), s 5 (.call 34 [(t 4)]), s 6 (.call 33 [(t 5)]), s 7 (.extract (t 6) 0), s 8 (.extract (t 6) 1), s 2 (.mv (t 7)), ⟨none, none, (.store 2 (t 3) (t 8))⟩]) .ret))
def DrawFindFact.keep : List Nat := [0, 2, 3]
def DrawFindFact.res : List RRes := [.tmp 2, .cell 3 true 2]
theorem DrawFindFact.of {mo : Bool} {args : List AV} {r : AV} {frs : Fr} (hn : Nat.ble args.length Try.f16.ntmps = true) (h : aCode (Kn mo Try.prog) DrawFindFact.keep 0 DrawFindFact.code (doneK DrawFindFact.res r frs) ⟨argEnv 0 args, [], []⟩) : Abs.Ret mo Try.prog 16 args r frs :=
  Abs.Ret.of_ir Try.func16 rfl (by kernel_rfl) (Nat.le_of_ble_eq_true hn) (by kernel_rfl) (by kernel_rfl) h
theorem DrawFindFact.ofS {mo : Bool} {args : List AV} {r : AV} (hr : isScalR r = true) (hn : Nat.ble args.length Try.f16.ntmps = true) (h : aCode (Kn mo Try.prog) DrawFindFact.keep 0 DrawFindFact.code (doneS DrawFindFact.res r) ⟨argEnv 0 args, [], []⟩) : Abs.Ret mo Try.prog 16 args r [] :=
  Abs.Ret.of_irS hr Try.func16 rfl (by kernel_rfl) (Nat.le_of_ble_eq_true hn) (by kernel_rfl) (by kernel_rfl) h
theorem DrawFindFact.ofL {mo : Bool} {b0 : List ABox} {args : List AV} {Φ : AV → List ABox → Fr → Prop} (hd : noDead b0 = true) (hn : Nat.ble args.length Try.f16.ntmps = true) (h : aCode (Kn mo Try.prog) DrawFindFact.keep b0.length DrawFindFact.code (doneL DrawFindFact.res Φ) ⟨argEnv 0 args, b0, []⟩) : Abs.Lent mo Try.prog 16 b0 args Φ :=
  Abs.Lent.of_ir hd Try.func16 rfl (by kernel_rfl) (Nat.le_of_ble_eq_true hn) (by kernel_rfl) (by kernel_rfl) h
abbrev DrawFindFact.Lent (b0 : List ABox) (args : List AV) (Φ : AV → List ABox → Fr → Prop) : Prop := Abs.Lent true Try.prog 16 b0 args Φ
abbrev DrawFindFact.Own (args : List AV) (x : Tr) : Prop := Abs.Own true Try.prog 16 args x
abbrev DrawFindFact.OwnN (args : List AV) (x : Tr) : Prop := Abs.Own false Try.prog 16 args x
abbrev DrawFindFact.Ret (args : List AV) (r : AV) (frs : Fr) : Prop := Abs.Ret true Try.prog 16 args r frs
abbrev DrawFindFact.RetN (args : List AV) (r : AV) (frs : Fr) : Prop := Abs.Ret false Try.prog 16 args r frs
def DrawAddFact.code : ACode := (.seq (.region false [s 2 (.mv (.const (.slice none 0 0))), s 3 (.alloc [(.string (.mk (.mk []))), (.slice none 0 0)])]) (.seq (.region false [s 4 (.mv (t 0)), s 5 (.call 34 [(t 4)]), s 6 (.call 33 [(t 5)]), s 7 (.extract (t 6) 0), s 8 (.extract (t 6) 1), s 2 (.mv (t 7)), ⟨none, none, (.store 2 (t 3) (t 8))⟩]) .ret))
def DrawAddFact.keep : List Nat := [0, 2, 3]
def DrawAddFact.res : List RRes := [.tmp 2, .cell 3 true 2]
theorem DrawAddFact.of {mo : Bool} {args : List AV} {r : AV} {frs : Fr} (hn : Nat.ble args.length Try.f8.ntmps = true) (h : aCode (Kn mo Try.prog) DrawAddFact.keep 0 DrawAddFact.code (doneK DrawAddFact.res r frs) ⟨argEnv 0 args, [], []⟩) : Abs.Ret mo Try.prog 8 args r frs :=
  Abs.Ret.of_ir Try.func8 rfl (by kernel_rfl) (Nat.le_of_ble_eq_true hn) (by kernel_rfl) (by kernel_rfl) h
theorem DrawAddFact.ofS {mo : Bool} {args : List AV} {r : AV} (hr : isScalR r = true) (hn : Nat.ble args.length Try.f8.ntmps = true) (h : aCode (Kn mo Try.prog) DrawAddFact.keep 0 DrawAddFact.code (doneS DrawAddFact.res r) ⟨argEnv 0 args, [], []⟩) : Abs.Ret mo Try.prog 8 args r [] :=
  Abs.Ret.of_irS hr Try.func8 rfl (by kernel_rfl) (Nat.le_of_ble_eq_true hn) (by kernel_rfl) (by kernel_rfl) h
theorem DrawAddFact.ofL {mo : Bool} {b0 : List ABox} {args : List AV} {Φ : AV → List ABox → Fr → Prop} (hd : noDead b0 = true) (hn : Nat.ble args.length Try.f8.ntmps = true) (h : aCode (Kn mo Try.prog) DrawAddFact.keep b0.length DrawAddFact.code (doneL DrawAddFact.res Φ) ⟨argEnv 0 args, b0, []⟩) : Abs.Lent mo Try.prog 8 b0 args Φ :=
  Abs.Lent.of_ir hd Try.func8 rfl (by kernel_rfl) (Nat.le_of_ble_eq_true hn) (by kernel_rfl) (by kernel_rfl) h
abbrev DrawAddFact.Lent (b0 : List ABox) (args : List AV) (Φ : AV → List ABox → Fr → Prop) : Prop := Abs.Lent true Try.prog 8 b0 args Φ
abbrev DrawAddFact.Own (args : List AV) (x : Tr) : Prop := Abs.Own true Try.prog 8 args x
abbrev DrawAddFact.OwnN (args : List AV) (x : Tr) : Prop := Abs.Own false Try.prog 8 args x
abbrev DrawAddFact.Ret (args : List AV) (r : AV) (frs : Fr) : Prop := Abs.Ret true Try.prog 8 args r frs
abbrev DrawAddFact.RetN (args : List AV) (r : AV) (frs : Fr) : Prop := Abs.Ret false Try.prog 8 args r frs
def DrawRemoveFact.code : ACode := (.seq (.region false [s 2 (.mv (.const (.slice none 0 0))), s 3 (.alloc [(.string (.mk (.mk []))), (.slice none 0 0)])]) (.seq (.region false [s 4 (.mv (t 0)), s 5 (.call 34 [(t 4)]), s 6 (.call 33 [(t 5)]), s 7 (.extract (t 6) 0), s 8 (.extract (t 6) 1), s 2 (.mv (t 7)), ⟨none, none, (.store 2 (t 3) (t 8))⟩]) .ret))
def DrawRemoveFact.keep : List Nat := [0, 2, 3]
def DrawRemoveFact.res : List RRes := [.tmp 2, .cell 3 true 2]
theorem DrawRemoveFact.of {mo : Bool} {args : List AV} {r : AV} {frs : Fr} (hn : Nat.ble args.length Try.f14.ntmps = true) (h : aCode (Kn mo Try.prog) DrawRemoveFact.keep 0 DrawRemoveFact.code (doneK DrawRemoveFact.res r frs) ⟨argEnv 0 args, [], []⟩) : Abs.Ret mo Try.prog 14 args r frs :=
  Abs.Ret.of_ir Try.func14 rfl (by kernel_rfl) (Nat.le_of_ble_eq_true hn) (by kernel_rfl) (by kernel_rfl) h
theorem DrawRemoveFact.ofS {mo : Bool} {args : List AV} {r : AV} (hr : isScalR r = true) (hn : Nat.ble args.length Try.f14.ntmps = true) (h : aCode (Kn mo Try.prog) DrawRemoveFact.keep 0 DrawRemoveFact.code (doneS DrawRemoveFact.res r) ⟨argEnv 0 args, [], []⟩) : Abs.Ret mo Try.prog 14 args r [] :=
  Abs.Ret.of_irS hr Try.func14 rfl (by kernel_rfl) (Nat.le_of_ble_eq_true hn) (by kernel_rfl) (by kernel_rfl) h
theorem DrawRemoveFact.ofL {mo : Bool} {b0 : List ABox} {args : List AV} {Φ : AV → List ABox → Fr → Prop} (hd : noDead b0 = true) (hn : Nat.ble args.length Try.f14.ntmps = true) (h : aCode (Kn mo Try.prog) DrawRemoveFact.keep b0.length DrawRemoveFact.code (doneL DrawRemoveFact.res Φ) ⟨argEnv 0 args, b0, []⟩) : Abs.Lent mo Try.prog 14 b0 args Φ :=
  Abs.Lent.of_ir hd Try.func14 rfl (by kernel_rfl) (Nat.le_of_ble_eq_true hn) (by kernel_rfl) (by kernel_rfl) h
abbrev DrawRemoveFact.Lent (b0 : List ABox) (args : List AV) (Φ : AV → List ABox → Fr → Prop) : Prop := Abs.Lent true Try.prog 14 b0 args Φ
abbrev DrawRemoveFact.Own (args : List AV) (x : Tr) : Prop := Abs.Own true Try.prog 14 args x
abbrev DrawRemoveFact.OwnN (args : List AV) (x : Tr) : Prop := Abs.Own false Try.prog 14 args x
abbrev DrawRemoveFact.Ret (args : List AV) (r : AV) (frs : Fr) : Prop := Abs.Ret true Try.prog 14 args r frs
abbrev DrawRemoveFact.RetN (args : List AV) (r : AV) (frs : Fr) : Prop := Abs.Ret false Try.prog 14 args r frs
def DrawMatchFact.code : ACode := (.seq (.region false [s 2 (.alloc [(.string (.mk (.mk []))), (.slice none 0 0)]), s 3 (.alloc [(.string (.mk (.mk []))), (.slice none 0 0)]), s 4 (.mv (.const (.slice none 0 0)))]) (.seq (.region false [s 12 (.mv (t 0)), s 13 (.call 34 [(t 12)]), s 5 (.mv (t 13))]) (.seq (.region false [s 14 (.mv (t 5)), s 15 (.call 46 [(t 14)]), s 6 (.alloc [(.string (.mk (.mk []))), (.slice none 0 0)]), ⟨none, none, (.store 2 (t 6) (t 15))⟩]) (.seq (.region false [s 16 (.mv (t 5)), s 17 (.call 42 [(t 16)]), s 7 (.alloc [(.string (.mk (.mk []))), (.slice none 0 0)]), ⟨none, none, (.store 2 (t 7) (t 17))⟩]) (.seq (.region false [s 18 (.mv (t 5)), s 19 (.call 47 [(t 18)]), s 8 (.mv (t 19))]) (.seq (.seq (.region false [s 20 (.mv (t 5)), s 21 (.call 48 [(t 20), (.const (.int .i64 3))]), s 22 (.not (t 21))]) (.cond (t 22) (.seq (.region false [s 23 (.fadr 0 (t 6)), s 24 (.load false 1 (t 23)), s 25 (.fadr 0 (t 7)), ⟨none, none, (.store 1 (t 25) (t 24))⟩]) (.seq (.region false [s 26 (.bslice 9 1 true []), s 27 (.fadr 1 (t 7)), ⟨none, none, (.store 1 (t 27) (t 26))⟩]) (.seq (.region false [s 9 (.mv (.const (.int .i64 0)))]) (.block 0 (.loop (.seq (.seq (.region false [s 28 (.mv (t 9)), s 29 (.fadr 1 (t 6)), s 30 (.load false 1 (t 29)), s 31 (.len false (t 30)), s 32 (.bin .lss (t 28) (t 31))]) (.cond (t 32) .skip (.exit 0))) (.seq (.block 1 (.seq (.region false [s 36 (.mv (t 8)), s 37 (.fadr 1 (t 6)), s 38 (.load false 1 (t 37)), s 39 (.mv (t 9)), s 40 (.iadr 1 (t 38) (t 39)), s 41 (.load false 1 (t 40)), s 42 (.call 49 [(t 36), (t 41)]), s 35 (.mv (t 42)), s 43 (.extract (t 35) 0), s 44 (.extract (t 35) 1), s 10 (.mv (t 43)), s 11 (.mv (t 44))]) (.seq (.seq (.region false [s 45 (.mv (t 11)), s 46 (.not (t 45)), s 47 (.mv (t 46)), g 47 false 48 (.mv (t 5)), g 47 false 49 (.call 48 [(t 48), (.const (.int .i64 8))]), s 50 (.or (t 47) (t 49))]) (.cond (t 50) (.region false [s 51 (.mv (t 5)), s 52 (.call 50 [(t 51)]), s 10 (.mv (t 52))]) .skip)) (.region false [s 53 (.fadr 1 (t 7)), s 54 (.load false 1 (t 53)), s 55 (.mv (t 10)), s 56 (.bslice 9 1 false [(t 55)]), s 57 (.append 9 1 16 (t 54) (t 56)), s 58 (.fadr 1 (t 7)), ⟨none, none, (.store 1 (t 58) (t 57))⟩])))) (.region false [s 33 (.mv (t 9)), s 34 (.bin .add (t 33) (.const (.int .i64 1))), s 9 (.mv (t 34))])))))))) .skip)) (.seq (.heldT true [59, 60, 61, 4] (.alt (s 61 (.mv (t 8))) (.alt (s 59 (.load true 2 (t 6))) (.alt (s 60 (.load true 2 (t 7))) (.alt (⟨none, none, (.store 2 (t 2) (t 59))⟩) (.alt (⟨none, none, (.store 2 (t 3) (t 60))⟩) .fin .none) .none) (.alt (⟨none, none, (.store 2 (t 2) (t 59))⟩) (.alt (s 60 (.load true 2 (t 7))) (.alt (⟨none, none, (.store 2 (t 3) (t 60))⟩) .fin .none) .none) .none)) (.alt (s 60 (.load true 2 (t 7))) (.alt (s 59 (.load true 2 (t 6))) (.alt (⟨none, none, (.store 2 (t 2) (t 59))⟩) (.alt (⟨none, none, (.store 2 (t 3) (t 60))⟩) .fin .none) .none) .none) .none)) .none) [s 4 (.mv (t 61))]) .ret)))))))
def DrawMatchFact.keep : List Nat := [0, 2, 3, 4, 5, 6, 7, 8, 9, 10, 11]
def DrawMatchFact.res : List RRes := [.cell 2 true 2, .cell 3 true 2, .tmp 4]
theorem DrawMatchFact.of {mo : Bool} {args : List AV} {r : AV} {frs : Fr} (hn : Nat.ble args.length Try.f18.ntmps = true) (h : aCode (Kn mo Try.prog) DrawMatchFact.keep 0 DrawMatchFact.code (doneK DrawMatchFact.res r frs) ⟨argEnv 0 args, [], []⟩) : Abs.Ret mo Try.prog 18 args r frs :=
  Abs.Ret.of_ir Try.func18 rfl (by kernel_rfl) (Nat.le_of_ble_eq_true hn) (by kernel_rfl) (by kernel_rfl) h
theorem DrawMatchFact.ofS {mo : Bool} {args : List AV} {r : AV} (hr : isScalR r = true) (hn : Nat.ble args.length Try.f18.ntmps = true) (h : aCode (Kn mo Try.prog) DrawMatchFact.keep 0 DrawMatchFact.code (doneS DrawMatchFact.res r) ⟨argEnv 0 args, [], []⟩) : Abs.Ret mo Try.prog 18 args r [] :=
  Abs.Ret.of_irS hr Try.func18 rfl (by kernel_rfl) (Nat.le_of_ble_eq_true hn) (by kernel_rfl) (by kernel_rfl) h
theorem DrawMatchFact.ofL {mo : Bool} {b0 : List ABox} {args : List AV} {Φ : AV → List ABox → Fr → Prop} (hd : noDead b0 = true) (hn : Nat.ble args.length Try.f18.ntmps = true) (h : aCode (Kn mo Try.prog) DrawMatchFact.keep b0.length DrawMatchFact.code (doneL DrawMatchFact.res Φ) ⟨argEnv 0 args, b0, []⟩) : Abs.Lent mo Try.prog 18 b0 args Φ :=
  Abs.Lent.of_ir hd Try.func18 rfl (by kernel_rfl) (Nat.le_of_ble_eq_true hn) (by kernel_rfl) (by kernel_rfl) h
abbrev DrawMatchFact.Lent (b0 : List ABox) (args : List AV) (Φ : AV → List ABox → Fr → Prop) : Prop := Abs.Lent true Try.prog 18 b0 args Φ
abbrev DrawMatchFact.Own (args : List AV) (x : Tr) : Prop := Abs.Own true Try.prog 18 args x
abbrev DrawMatchFact.OwnN (args : List AV) (x : Tr) : Prop := Abs.Own false Try.prog 18 args x
abbrev DrawMatchFact.Ret (args : List AV) (r : AV) (frs : Fr) : Prop := Abs.Ret true Try.prog 18 args r frs
abbrev DrawMatchFact.RetN (args : List AV) (r : AV) (frs : Fr) : Prop := Abs.Ret false Try.prog 18 args r frs
def DrawMatchingFacts.code : ACode := (.seq (.region false [s 2 (.alloc [(.string (.mk (.mk []))), (.slice none 0 0)]), s 3 (.mv (.const (.slice none 0 0))), s 4 (.mv (.const (.slice none 0 0)))]) (.seq (.region false [s 7 (.mv (t 0)), s 8 (.call 34 [(t 7)]), s 5 (.mv (t 8))]) (.seq (.region false [s 9 (.mv (t 5)), s 10 (.call 46 [(t 9)]), s 6 (.alloc [(.string (.mk (.mk []))), (.slice none 0 0)]), ⟨none, none, (.store 2 (t 6) (t 10))⟩]) (.seq (.heldT true [11, 12, 13, 14, 15, 3, 4] (.alt (s 12 (.mv (t 5))) (.alt (s 14 (.mv (t 5))) (.alt (s 11 (.load true 2 (t 6))) (.alt (s 13 (.call 47 [(t 12)])) (.alt (s 15 (.call 65 [(t 14)])) .fin .none) .none) (.alt (s 13 (.call 47 [(t 12)])) (.alt (s 11 (.load true 2 (t 6))) (.alt (s 15 (.call 65 [(t 14)])) .fin .none) (.alt (s 15 (.call 65 [(t 14)])) (.alt (s 11 (.load true 2 (t 6))) .fin .none) .none)) .none)) .none) .none) [⟨none, none, (.store 2 (t 2) (t 11))⟩, s 3 (.mv (t 13)), s 4 (.mv (t 15))]) .ret))))
def DrawMatchingFacts.keep : List Nat := [0, 2, 3, 4, 5, 6]
def DrawMatchingFacts.res : List RRes := [.cell 2 true 2, .tmp 3, .tmp 4]
theorem DrawMatchingFacts.of {mo : Bool} {args : List AV} {r : AV} {frs : Fr} (hn : Nat.ble args.length Try.f28.ntmps = true) (h : aCode (Kn mo Try.prog) DrawMatchingFacts.keep 0 DrawMatchingFacts.code (doneK DrawMatchingFacts.res r frs) ⟨argEnv 0 args, [], []⟩) : Abs.Ret mo Try.prog 28 args r frs :=
  Abs.Ret.of_ir Try.func28 rfl (by kernel_rfl) (Nat.le_of_ble_eq_true hn) (by kernel_rfl) (by kernel_rfl) h
theorem DrawMatchingFacts.ofS {mo : Bool} {args : List AV} {r : AV} (hr : isScalR r = true) (hn : Nat.ble args.length Try.f28.ntmps = true) (h : aCode (Kn mo Try.prog) DrawMatchingFacts.keep 0 DrawMatchingFacts.code (doneS DrawMatchingFacts.res r) ⟨argEnv 0 args, [], []⟩) : Abs.Ret mo Try.prog 28 args r [] :=
  Abs.Ret.of_irS hr Try.func28 rfl (by kernel_rfl) (Nat.le_of_ble_eq_true hn) (by kernel_rfl) (by kernel_rfl) h
theorem DrawMatchingFacts.ofL {mo : Bool} {b0 : List ABox} {args : List AV} {Φ : AV → List ABox → Fr → Prop} (hd : noDead b0 = true) (hn : Nat.ble args.length Try.f28.ntmps = true) (h : aCode (Kn mo Try.prog) DrawMatchingFacts.keep b0.length DrawMatchingFacts.code (doneL DrawMatchingFacts.res Φ) ⟨argEnv 0 args, b0, []⟩) : Abs.Lent mo Try.prog 28 b0 args Φ :=
  Abs.Lent.of_ir hd Try.func28 rfl (by kernel_rfl) (Nat.le_of_ble_eq_true hn) (by kernel_rfl) (by kernel_rfl) h
abbrev DrawMatchingFacts.Lent (b0 : List ABox) (args : List AV) (Φ : AV → List ABox → Fr → Prop) : Prop := Abs.Lent true Try.prog 28 b0 args Φ
abbrev DrawMatchingFacts.Own (args : List AV) (x : Tr) : Prop := Abs.Own true Try.prog 28 args x
abbrev DrawMatchingFacts.OwnN (args : List AV) (x : Tr) : Prop := Abs.Own false Try.prog 28 args x
abbrev DrawMatchingFacts.Ret (args : List AV) (r : AV) (frs : Fr) : Prop := Abs.Ret true Try.prog 28 args r frs
abbrev DrawMatchingFacts.RetN (args : List AV) (r : AV) (frs : Fr) : Prop := Abs.Ret false Try.prog 28 args r frs
def lawNotHas.code : ACode := (.seq (.region false [s 2 (.mv (.const (.bool false)))]) (.seq (.seq (.region false [s 8 (.mv (t 0)), s 9 (.call 7 [(t 8)])]) (.cond (t 9) (.seq (.region false [s 2 (.mv (.const (.bool true)))]) .ret) .skip)) (.seq (.region false [s 11 (.mv (t 0)), s 12 (.call 28 [(t 11)]), s 10 (.mv (t 12)), s 13 (.extract (t 10) 0), s 14 (.extract (t 10) 1), s 15 (.extract (t 10) 2), s 3 (.alloc [(.string (.mk (.mk []))), (.slice none 0 0)]), ⟨none, none, (.store 2 (t 3) (t 13))⟩, s 4 (.mv (t 14)), s 5 (.mv (t 15))]) (.seq (.region false [s 16 (.load true 2 (t 3)), s 17 (.build [(.int .i64 (.ofNat 0)), (.string (.mk (.mk []))), (.slice none 0 0), (.string (.mk (.mk []))), (.string (.mk (.mk [])))] [(0, 1), (1, 2)] [(.const (.int .i64 1)), (t 16)]), s 18 (.mv (t 4)), s 19 (.mv (t 5)), s 20 (.call 29 [(t 17), (t 18), (t 19)]), s 6 (.mv (t 20))]) (.seq (.region false [s 21 (.load true 2 (t 3)), s 22 (.build [(.int .i64 (.ofNat 0)), (.string (.mk (.mk []))), (.slice none 0 0), (.string (.mk (.mk []))), (.string (.mk (.mk [])))] [(0, 1), (1, 2)] [(.const (.int .i64 2)), (t 21)]), s 23 (.mv (t 4)), s 24 (.mv (t 5)), s 25 (.call 29 [(t 22), (t 23), (t 24)]), s 7 (.mv (t 25))]) (.seq (.seq (.region false [s 26 (.load true 2 (t 3)), s 27 (.call 30 [(t 26)]), s 28 (.not (t 27)), s 29 (.mv (t 28)), g 29 false 30 (.mv (t 4)), g 29 false 31 (.call 31 [(t 30)]), g 29 false 32 (.not (t 31)), s 33 (.or (t 29) (t 32))]) (.cond (t 33) (.seq (.region false [s 34 (.mv (t 6)), s 35 (.not (t 34)), s 36 (.mv (t 35)), g 36 true 37 (.mv (t 7)), g 36 true 38 (.not (t 37)), s 39 (.and (t 36) (t 38)), s 2 (.mv (t 39))]) .ret) .skip)) (.seq (.region false [s 40 (.mv (t 6)), s 41 (.mv (t 7)), s 42 (.binb .neq (t 40) (t 41)), s 43 (.mv (t 42)), g 43 true 44 (.mv (t 6)), g 43 true 45 (.load true 2 (t 3)), g 43 true 46 (.mv (t 4)), g 43 true 47 (.mv (t 5)), g 43 true 48 (.call 32 [(t 45), (t 46), (t 47)]), g 43 true 49 (.len false (t 48)), g 43 true 50 (.bin .gtr (t 49) (.const (.int .i64 0))), g 43 true 51 (.binb .eql (t 44) (t 50)), s 52 (.and (t 43) (t 51)), s 2 (.mv (t 52))]) .ret)))))))
def lawNotHas.keep : List Nat := [0, 2, 3, 4, 5, 6, 7]
def lawNotHas.res : List RRes := [.tmp 2]
theorem lawNotHas.ofS {mo : Bool} {args : List AV} {r : AV} (hr : isScalR r = true) (hn : Nat.ble args.length Try.f6.ntmps = true) (h : aCode (Kn mo Try.prog) lawNotHas.keep 0 lawNotHas.code (doneS lawNotHas.res r) ⟨argEnv 0 args, [], []⟩) : Abs.Ret mo Try.prog 6 args r [] :=
  Abs.Ret.of_irS hr Try.func6 rfl (by kernel_rfl) (Nat.le_of_ble_eq_true hn) (by kernel_rfl) (by kernel_rfl) h
abbrev lawNotHas.RetN (args : List AV) (r : AV) (frs : Fr) : Prop := Abs.Ret false Try.prog 6 args r frs
def lbig.code : ACode := (.seq (.region false [s 2 (.mv (.const (.bool false)))]) (.seq (.region false [s 3 (.mv (t 0)), s 4 (.len false (t 3)), s 5 (.bin .gtr (t 4) (.const (.int .i64 4096))), s 2 (.mv (t 5))]) .ret))
def lbig.keep : List Nat := [0, 2]
def lbig.res : List RRes := [.tmp 2]
theorem lbig.of {mo : Bool} {args : List AV} {r : AV} {frs : Fr} (hn : Nat.ble args.length Try.f7.ntmps = true) (h : aCode (Kn mo Try.prog) lbig.keep 0 lbig.code (doneK lbig.res r frs) ⟨argEnv 0 args, [], []⟩) : Abs.Ret mo Try.prog 7 args r frs :=
  Abs.Ret.of_ir Try.func7 rfl (by kernel_rfl) (Nat.le_of_ble_eq_true hn) (by kernel_rfl) (by kernel_rfl) h
abbrev lbig.Ret (args : List AV) (r : AV) (frs : Fr) : Prop := Abs.Ret true Try.prog 7 args r frs
end Go.Proofs.Ytkbblglbbfdnpaa
namespace Go.Proofs.Ytkbblglbbfdnpaa
open Abs
/-- what is left of a, or -1 -/
def left (a : Int) (n : Nat) : Int := if a - n < 0 then -1 else a - n
end Go.Proofs.Ytkbblglbbfdnpaa
namespace Go.Proofs.Ytkbblglbbfdnpaa
open Abs
def digs : Nat → Nat → Str → Str
  | 0, _, a => a
  | n + 1, k, a => if k = 0 then a else digs n (k / 10) (UInt8.ofNat (48 + k % 10) :: a)
@[irreducible] def markF (k : Nat) : Str := if k = 0 then [109, 48] else 109 :: digs k k []
def markL (n k : Nat) : List Str := (List.range n).map fun i => markF (k + i)
@[simp] theorem length_markL (n k : Nat) : (markL n k).length = n := by simp [markL]
end Go.Proofs.Ytkbblglbbfdnpaa
namespace Go.Proofs.Ytkbblglbbfdnpaa
open Abs
def tStrs : Ty (List Str) := Ty.plain 9 Ty.str (fun _ => rfl) (fun _ => rfl)
abbrev Fct := Str × List Str
def tFct : Ty Fct := Ty.pair Ty.str tStrs
abbrev facts (l : List Fct) : List (List AV) := rows tFct l
theorem Abs.ACall.mkStrs {C : Con} {lend : Bool} {f : Nat} {vs : List AV} {b : List ABox} {fr : Fr} {k : AV → List ABox → Fr → Prop} (ys : List AV) (l : List Str) (h : C.ret f ys (.list (some 0) (strs l)) [(9, 1, l.length)]) (hv : SeesL Sees0 vs ys)
    (hk : k (.list (some fr.length) (strs l)) b (fr ++ [(9, 1, l.length)])) : ACall C lend f vs b fr k :=
  ACall.mkV tStrs ys l (fun n => .list (some n) (strs l)) (fun _ => rfl) h hv hk
theorem Abs.ACall.mkFct {C : Con} {lend : Bool} {f : Nat} {vs : List AV} {b : List ABox} {fr : Fr} {k : AV → List ABox → Fr → Prop} (ys : List AV) (a : Fct) (h : C.ret f ys (.agg (tFct.tk a 0)) (tFct.fr a)) (hv : SeesL Sees0 vs ys)
    (hk : k (.agg (tFct.tk a fr.length)) b (fr ++ tFct.fr a)) : ACall C lend f vs b fr k := ACall.mkA tFct ys a h hv hk
theorem tFct_size (f : Fct) : tFct.size f = f.1.length + tStrs.size f.2 := rfl
theorem tStrs_size (l : List Str) : tStrs.size l = l.length + listSize Ty.str l := rfl
end Go.Proofs.Ytkbblglbbfdnpaa
namespace Go.Proofs.Ytkbblglbbfdnpaa
open Abs
def tFcts : Ty (List Fct) := Ty.list 27 tFct
theorem tFcts_size (l : List Fct) : tFcts.size l = l.length + listSize tFct l := rfl
theorem facts_get {l : List Fct} {i : Nat} (hi : i < l.length) : l[i]? = some (l.getD i default) := by simp [List.getD, hi]
end Go.Proofs.Ytkbblglbbfdnpaa
namespace Go.Proofs.Ytkbblglbbfdnpaa
namespace Abs
mutual
/-- how many cells are marked: of a cell of an element, of its cells, of a slice's elements -/
def c1 : Tr → Nat
  | .v _ => 1
  | .s _ => 1
  | .l _ _ xs => cnLL xs
  | .a _ => 0
  | .p _ => 0
def cnC : List Tr → Nat
  | [] => 0
  | x :: xs => c1 x + cnC xs
def cnLL : List (List Tr) → Nat
  | [] => 0
  | x :: xs => cnC x + cnLL xs
end
mutual
/-- of a value: the cells in its slices -/
def cn : Tr → Nat
  | .l _ _ xs => cnLL xs
  | .a fs => cnA fs
  | .p fs => cnA fs
  | .v _ => 0
  | .s _ => 0
def cnA : List Tr → Nat
  | [] => 0
  | x :: xs => cn x + cnA xs
end
mutual
def m1 : Tr → Nat → Tr
  | .v _, k => .v (.int .i64 k)
  | .s _, k => .s (markF k)
  | .l t sz xs, k => .l t sz (mkLL xs k)
  | .a fs, _ => .a fs
  | .p fs, _ => .p fs
def mkC : List Tr → Nat → List Tr
  | [], _ => []
  | x :: xs, k => m1 x k :: mkC xs (k + c1 x)
def mkLL : List (List Tr) → Nat → List (List Tr)
  | [], _ => []
  | x :: xs, k => mkC x k :: mkLL xs (k + cnC x)
end
mutual
def mk : Tr → Nat → Tr
  | .l t sz xs, k => .l t sz (mkLL xs k)
  | .a fs, k => .a (mkA fs k)
  | .p fs, k => .p (mkA fs k)
  | .v x, _ => .v x
  | .s x, _ => .s x
def mkA : List Tr → Nat → List Tr
  | [], _ => []
  | x :: xs, k => mk x k :: mkA xs (k + cn x)
end
theorem cnC_append : ∀ xs ys, cnC (xs ++ ys) = cnC xs + cnC ys
  | [], ys => by simp [cnC]
  | x :: xs, ys => by rw [List.cons_append, cnC, cnC_append xs, cnC, Nat.add_assoc]
theorem Sees0.cut {xs : List AV} {ys : List Tr} (h : xs = oldL ys) : Sees0 (.agg xs) (.agg (oldL ys)) := by subst h; exact Sees0.oldagg ys
def CnB {α : Type} (T : Ty α) (w : Nat) : Prop := ∀ a, cnC (T.q a) ≤ w * (1 + T.size a)
theorem CnB.str : CnB Ty.str 1 := fun a => by show 1 + 0 ≤ 1 * (1 + _); omega
theorem CnB.int : CnB Ty.int 1 := fun a => by show 1 + 0 ≤ 1 * (1 + _); omega
theorem CnB.bool : CnB Ty.bool 1 := fun a => by show 1 + 0 ≤ 1 * (1 + _); omega
theorem CnB.pair {α β : Type} {T : Ty α} {U : Ty β} {w v : Nat} (h : CnB T w) (g : CnB U v) : CnB (Ty.pair T U) (w + v) := fun a => by
  show cnC (T.q a.1 ++ U.q a.2) ≤ (w + v) * (1 + (T.size a.1 + U.size a.2))
  rw [cnC_append, Nat.add_mul]
  exact Nat.add_le_add (Nat.le_trans (h a.1) (Nat.mul_le_mul_left _ (by omega))) (Nat.le_trans (g a.2) (Nat.mul_le_mul_left _ (by omega)))
theorem CnB.rows {α : Type} {T : Ty α} {w : Nat} (h : CnB T w) : ∀ l : List α, cnLL (l.map T.q) ≤ w * (l.length + listSize T l)
  | [] => Nat.zero_le _
  | a :: l => by
    have h1 := h.rows l
    have h2 := h a
    rw [List.map_cons, cnLL, List.length_cons, listSize]
    refine Nat.le_trans (Nat.add_le_add h2 h1) ?_
    rw [← Nat.mul_add]
    exact Nat.mul_le_mul_left _ (by omega)
theorem CnB.cellsL {α : Type} {T : Ty α} {w : Nat} (h : CnB T w) (t sz : Nat) (l : List α) : cnC [.l t sz (l.map T.q)] ≤ w * (1 + (l.length + listSize T l)) := by
  show cnLL (l.map T.q) + 0 ≤ _
  exact Nat.le_trans (h.rows l) (Nat.mul_le_mul_left _ (by omega))
theorem CnB.list {α : Type} {T : Ty α} {w : Nat} (h : CnB T w) (t : Nat) : CnB (Ty.list t T) w := fun l => h.cellsL t T.sz l
theorem CnB.plain {α : Type} {T : Ty α} {w : Nat} (h : CnB T w) (t : Nat) (h1 h2) : CnB (Ty.plain t T h1 h2) w := fun l => h.cellsL t T.sz l
theorem CnB.l {α : Type} {T : Ty α} {w : Nat} (h : CnB T w) (t sz : Nat) (l : List α) : cn (.l t sz (l.map T.q)) ≤ w * (l.length + listSize T l) := h.rows l
end Abs
end Go.Proofs.Ytkbblglbbfdnpaa
namespace Go.Proofs.Ytkbblglbbfdnpaa
open Abs
end Go.Proofs.Ytkbblglbbfdnpaa
namespace Go.Proofs.Ytkbblglbbfdnpaa
namespace Abs
theorem bx_cons {x y : ABox} {l l' : List ABox} (h : x = y) (h' : l = l') : x :: l = y :: l' := by rw [h, h']
theorem bx_map {m m' : List (Str × Str)} (h : m = m') : ABox.map m = ABox.map m' := by rw [h]
theorem FinalC.all {Φ : AV → List ABox → Fr → Prop} {r : AV} {b : List ABox} {f : Fr} (h : Lends b b) (hk : Φ r b f) : FinalC Φ r b f := ⟨b, h, hk⟩
theorem FinalC.allA {Φ : AV → List ABox → Fr → Prop} {r : AV} {b : List ABox} {f : Fr} (hk : Φ r b f) (h : Lends b b := by repeat' first | exact Lends.nil | refine Lends.map _ ?_ | refine Lends.lend _ _ (by first | exact hx.1 | exact hy.1 | exact noTk_old _ | (intro c hc; rw [List.mem_singleton.1 hc]; rfl) | (intro c hc; cases hc; done)) ?_) : FinalC Φ r b f := ⟨b, h, hk⟩
theorem Lent.weak {mo : Bool} {P : Program} {f : Nat} {b0 : List ABox} {args : List AV} {Φ : AV → List ABox → Fr → Prop} (h : Lent true P f b0 args Φ) : Lent mo P f b0 args Φ := by
  rw [Lent_eq] at *
  exact ⟨h.1, fun w F vs box0 q a b c d e g => (h.2 w F vs box0 q a b c d e g).mono (by rintro en w' ⟨v, F', box1, tok, frs, r, b1, h1, h2, h3, h4⟩; exact ⟨v, F', box1, tok, frs, r, b1, h1, h2, h3.weak, h4⟩)⟩
theorem ACall.lentE {C : Con} {f : Nat} {vs : List AV} {b : List ABox} {fr : Fr} {k : AV → List ABox → Fr → Prop} (b0 : List ABox) (ys : List AV) (r : AV) (b1 : List ABox) (f1 : Fr) (h : C.lent f b0 ys (fun x y z => x = r ∧ y = b1 ∧ z = f1)) (hb : Lends b b0) (hv : SeesL SeesC vs ys)
    (hk : k (shiftK fr.length r) (merge b b0 b1) (fr ++ f1)) : ACall C true f vs b fr k :=
  .lent rfl b0 ys _ h hb hv (by rintro _ _ _ ⟨rfl, rfl, rfl⟩; exact hk)
theorem ACall.lentS {C : Con} {f : Nat} {vs : List AV} {b : List ABox} {fr : Fr} {k : AV → List ABox → Fr → Prop} (b0 : List ABox) (ys : List AV) (l : List Str) (b1 : List ABox) (f1 : Fr) (h : C.lent f b0 ys (fun x y z => x = .list (some 0) (strs l) ∧ y = b1 ∧ z = f1)) (hb : Lends b b0) (hv : SeesL SeesC vs ys)
    (hk : k (.list (some fr.length) (strs l)) (merge b b0 b1) (fr ++ f1)) : ACall C true f vs b fr k := by
  refine .lent rfl b0 ys _ h hb hv ?_
  rintro _ _ _ ⟨rfl, rfl, rfl⟩
  have e : shiftK fr.length (.list (some 0) (strs l)) = .list (some fr.length) (strs l) := by
    cases fr.length with
    | zero => rfl
    | succ n =>
      show AV.list (some (0 + (n + 1))) (mapTLL _ (strs l)) = _
      rw [strs, mapTLL_old, Nat.zero_add]
  rw [e]; exact hk
section
variable {mo : Bool} {P : Program}
theorem own_post {B : Nat} {w' : World} {F' : Nat → Nat} {tok : List (Option Nat)} {box : List BId} {frs : Fr} {x : Tr} {r : AV} {v : Value} {ts : List Nat} (hrep : Rep B w' F' tok frs box r v) (ho : OwnA frs [x] [r] ts) (hn : ts.Nodup)
    (htin : ∀ (k b : Nat), tok[k]? = some (some b) → B ≤ b ∧ b < w'.heap.size) (htinj : ∀ (k l b : Nat), tok[k]? = some (some b) → tok[l]? = some (some b) → k = l) : ∃ ds, OwnL w' [x] [v] ds ∧ ds.Nodup ∧ ∀ d ∈ ds, B ≤ d ∧ d < w'.heap.size := by
  have hget : ∀ d, d ∈ ts.filterMap (fun k => (tok[k]?).join) → ∃ k ∈ ts, tok[k]? = some (some d) := fun d hd => by
    obtain ⟨k, hk, he⟩ := List.mem_filterMap.1 hd
    cases h : tok[k]? with
    | none => rw [h] at he; cases he
    | some o => rw [h] at he; cases o with
      | none => cases he
      | some b => cases he; exact ⟨k, hk, h⟩
  refine ⟨ts.filterMap fun k => (tok[k]?).join, ho.own (F := F') (box := box) (Both.cons.2 ⟨hrep, rfl, by simp⟩), ?_, fun d hd => ?_⟩
  · clear hrep ho
    induction ts with
    | nil => simp
    | cons k ts ih =>
      obtain ⟨n1, n2⟩ := List.nodup_cons.1 hn
      have hget' : ∀ d, d ∈ ts.filterMap (fun k => (tok[k]?).join) → ∃ k ∈ ts, tok[k]? = some (some d) := fun d hd => by
        obtain ⟨k, hk, he⟩ := List.mem_filterMap.1 hd
        cases h : tok[k]? with
        | none => rw [h] at he; cases he
        | some o => rw [h] at he; cases o with
          | none => cases he
          | some b => cases he; exact ⟨k, hk, h⟩
      rw [List.filterMap_cons]
      split
      · exact ih n2 hget'
      · rename_i b hb'
        refine List.nodup_cons.2 ⟨fun hm => ?_, ih n2 hget'⟩
        obtain ⟨k', hk', he'⟩ := hget' b hm
        have he : tok[k]? = some (some b) := by
          cases h : tok[k]? with
          | none => rw [h] at hb'; cases hb'
          | some o => rw [h] at hb'; cases o with
            | none => cases hb'
            | some b => cases hb'; rfl
        exact n1 (htinj k k' b he he' ▸ hk')
  · obtain ⟨k, _, hk⟩ := hget d hd
    exact htin k d hk
theorem Own.of_irP {fid : Nat} {fn : Func} {code : ACode} {rs : List RRes} {K : List Nat} {args : List AV} {x : Tr} (hf : P.funcs[fid]? = some fn) (hb : fn.body.isSome = true) (hm : (fn.name == "runtime.NumGoroutine") = false)
    (hn : args.length ≤ fn.ntmps) (hc : cCode P fn.ntmps (fn.body.getD .skip) = code) (hrs : fn.results.toList.map (cRes P) = rs)
    (h : aCode (Kn mo P) K 0 code (doneG rs fun r _ f => ∃ ts, OwnA f [x] [r] ts ∧ ts.Nodup) ⟨argEnv 0 args, [], []⟩) : Own mo P fid args x := by
  rw [Kn_eq] at h; rw [Own_eq]
  obtain ⟨c, hc'⟩ := Option.isSome_iff_exists.1 hb
  rw [hc', Option.getD_some] at hc
  rw [← hc, ← hrs] at h
  refine ⟨okFn_of hf hb hm, fun w F vs hcond hout hargs => (calls_of_code hf hc' hn K h w F vs hcond hout hargs).mono ?_⟩
  rintro e w' ⟨v, F', tok, box, r, b, frs, ⟨ts, ho, hnd⟩, rfl, hb, hold, ho', htl, htin, htinj, hrep⟩
  obtain ⟨ds, h1, h2, h3⟩ := own_post hrep ho hnd htin htinj
  exact ⟨v, ds, rfl, hb, h1, h2, h3⟩
end
end Abs
open Abs
theorem str_le {l : List Str} {i : Nat} (hi : i < l.length) : (l.getD i []).length ≤ listSize Ty.str l :=
  listSize_mem Ty.str (List.mem_of_getElem? (by simp [List.getD, hi] : l[i]? = some (l.getD i [])))
theorem str_le' (l : List Str) (i : Nat) : (l.getD i []).length ≤ listSize Ty.str l := by
  rcases Nat.lt_or_ge i l.length with h | h
  · exact str_le h
  · have : l.getD i [] = [] := by simp [List.getD, List.getElem?_eq_none h]
    rw [this]; exact Nat.zero_le _
end Go.Proofs.Ytkbblglbbfdnpaa
namespace Go.Proofs.Ytkbblglbbfdnpaa
namespace Abs
variable {mo : Bool} {P : Program}
theorem Sees0.tup {xs ys : List AV} (h : SeesL Sees0 xs ys) : Sees0 (.tup xs) (.tup ys) := fun hx B' box' => by
  have hx := hx.tup_inv
  cases hx with
  | tup _ vs hl hr =>
    refine .tup _ _ (by rw [← h.length]; exact hl) (fun i c hc => ?_)
    obtain ⟨x, hx, hs⟩ := h.get' hc
    exact hs (.rep _ _ (hr i x hx)) B' box'
def deads (n : Nat) : List ABox := List.replicate n .dead
theorem deads_len (n : Nat) : (deads n).length = n := List.length_replicate
theorem deads_get {n j : Nat} {x : ABox} (h : (deads n)[j]? = some x) : x = .dead := List.eq_of_mem_replicate (List.mem_of_getElem? h)
theorem CondB.take {w : World} {box : List BId} (h : CondB w box) (m : Nat) : CondB w (box.take m) := h.sub fun j b c hj => ⟨j, by
  rw [List.getElem?_take] at hj
  split at hj
  · exact hj
  · cases hj⟩
theorem take_get {α : Type} {l : List α} {m j : Nat} {x : α} (h : (l.take m)[j]? = some x) : l[j]? = some x ∧ j < m := by
  rw [List.getElem?_take] at h
  split at h
  · exact ⟨h, by assumption⟩
  · cases h
theorem mask_pre : ∀ (b c : List ABox) (box : List BId) (j : Nat) (x : BId), (mask b (box.take b.length))[j]? = some x → (mask (b ++ c) box)[j]? = some x
  | [], _, _, j, x, h => by simp [mask] at h
  | y :: b, c, [], j, x, h => by cases y <;> simp [mask] at h
  | y :: b, c, d :: box, j, x, h => by
    have ih := mask_pre b c box
    cases y <;> (cases j with
      | zero => simpa [mask] using h
      | succ j => simp only [List.length_cons, List.take_succ_cons, mask, List.getElem?_cons_succ] at h; simp only [List.cons_append, mask, List.getElem?_cons_succ]; exact ih j x h)
theorem BoxOk.take {B : Nat} {w : World} {F : Nat → Nat} {tok : List (Option Nat)} {fr : Fr} {box : List BId} {m : Nat} {d : BId} {x : ABox} (h : BoxOk B w F tok fr box d x) (hx : ∀ k cs, x = .cells k cs → inB.inBL m cs) : BoxOk B w F tok fr (box.take m) d x := by
  cases d with
  | blk b c =>
    cases x with
    | cells k cs =>
      obtain ⟨c', t, h1, h2, h3, h4⟩ := h
      exact ⟨c', t, h1, h2, fun i y hy => ⟨(h3 i y hy).1.take (inBL_mem (hx k cs rfl) (List.mem_of_getElem? hy)), (h3 i y hy).2⟩, h4⟩
    | iter s p => exact h
    | map m => exact h
    | vmap kk vk m => exact h
    | dead => exact trivial
  | nil =>
    cases x with
    | cells k cs => exact h
    | iter s p => exact h
    | map m => exact h
    | vmap kk vk m => exact h
    | dead => exact trivial
theorem BoxOk.wide {B : Nat} {w : World} {F : Nat → Nat} {tok : List (Option Nat)} {fr : Fr} {box box' : List BId} (hb : ∀ (j : Nat) d, box[j]? = some d → box'[j]? = some d) {d : BId} {x : ABox} (h : BoxOk B w F tok fr box d x) : BoxOk B w F tok fr box' d x :=
  h.later (Later.refl w F tok fr) hb (fun _ _ _ _ => rfl)
theorem Lent.mono {f : Nat} {b0 : List ABox} {args : List AV} {Φ Ψ : AV → List ABox → Fr → Prop} (h : Lent mo P f b0 args Φ) (hΦ : ∀ r b fr, Φ r b fr → Ψ r b fr) : Lent mo P f b0 args Ψ := by
  rw [Lent_eq] at *
  refine ⟨h.1, fun w F vs box0 q a b c d e g => (h.2 w F vs box0 q a b c d e g).mono ?_⟩
  rintro en w' ⟨v, F', box1, tok, frs, r, b1, h1, h2⟩
  exact ⟨v, F', box1, tok, frs, r, b1, hΦ _ _ _ h1, h2⟩
/-- what is handed back is only read; boxes that were laid are forgotten -/
theorem Lent.trim {f : Nat} {b0 : List ABox} {args : List AV} {Φ Ψ : AV → List ABox → Fr → Prop} (h : Lent mo P f b0 args Φ)
    (hΦ : ∀ r b fr, Φ r b fr → ∃ r', Ψ r' (b.take b0.length) [] ∧ Sees0 r r' ∧ ∀ x ∈ b.take b0.length, ∀ k cs, x = .cells k cs → inB.inBL b0.length cs) : Lent mo P f b0 args Ψ := by
  rw [Lent_eq] at *
  refine ⟨h.1, fun w F vs box0 q a b c d e g => (h.2 w F vs box0 q a b c d e g).mono ?_⟩
  rintro en w' ⟨v, F', box1, tok, frs, r, b1, h1, h2, h3, h4, h5, h6, h7, h8, h9, h10, h11, h12, h13, h14, h15, h16⟩
  obtain ⟨r', k1, k2, k3⟩ := hΦ _ _ _ h1
  have hle : box0.length ≤ box1.length := by
    rcases Nat.lt_or_ge box1.length box0.length with h | h
    · have := getElem?_lt (h6 box1.length _ (List.getElem?_eq_getElem h)); omega
    · exact h
  have lv : ∀ j, j < b0.length → live (b1.take b0.length) j → live b1 j := fun j hj hl hd => hl (by rw [List.getElem?_take, if_pos hj]; exact hd)
  refine ⟨v, F', box1.take b0.length, [], [], _, b1.take b0.length, k1, h2, h3, h4, h5, fun j d hj => ?_, by rw [List.length_take, List.length_take, h7], fun j b c hj hb => ?_, fun j b c hj hl => ?_, fun i j b c c' hi hj li lj => ?_, fun j d x hj hx => ?_, rfl, by simp, by simp, by simp, ?_⟩
  · rw [List.getElem?_take, if_pos (by have := getElem?_lt hj; omega)]; exact h6 j d hj
  · have := (take_get hb).2; omega
  · obtain ⟨e1, e2⟩ := take_get hj
    exact h9 j b c e1 (lv j e2 hl)
  · obtain ⟨e1, e2⟩ := take_get hi
    obtain ⟨e3, e4⟩ := take_get hj
    exact h10 i j b c c' e1 e3 (lv i e2 li) (lv j e4 lj)
  · obtain ⟨e1, e2⟩ := take_get hj
    obtain ⟨e3, e4⟩ := take_get hx
    intro hor
    exact (h11 j d x e1 e3 hor).take (fun k cs he => k3 x (List.mem_of_getElem? hx) k cs he)
  · exact k2 (.rep _ _ h16) _ _
/-- .. and may have any other boxes beside it -/
theorem Lent.wide {f : Nat} {b0 : List ABox} {args : List AV} {Φ : AV → List ABox → Fr → Prop} (h : Lent mo P f b0 args Φ) (n : Nat) (ha : ∀ x ∈ args, inB b0.length x) (hb0 : ∀ x ∈ b0, ∀ k cs, x = .cells k cs → inB.inBL b0.length cs)
    (hΦ : ∀ r b fr, Φ r b fr → b.length = b0.length) : Lent mo P f (b0 ++ deads n) args (fun r b1 f1 => ∃ b, Φ r b f1 ∧ b1 = b ++ deads n) := by
  rw [Lent_eq] at *
  refine ⟨h.1, fun w F vs box0 hc hout hbl hbi hbj hB hargs => ?_⟩
  have hl0 : box0.length = b0.length + n := by rw [hbl, List.length_append, deads, List.length_replicate]
  have lv : ∀ j, j < b0.length → live b0 j → live (b0 ++ deads n) j := fun j hj hl hd => hl (by rw [List.getElem?_append_left hj] at hd; exact hd)
  have hlt : (box0.take b0.length).length = b0.length := by rw [List.length_take]; omega
  refine (h.2 w F vs (box0.take b0.length) (hc.take _) hout hlt (fun j b c hj => ?_) (fun i j b c c' hi hj li lj => ?_) (fun j d x hj hx => ?_) ⟨hargs.1, fun i x v hx hv => (hargs.2 i x v hx hv).take (ha x (List.mem_of_getElem? hx))⟩).mono ?_
  · obtain ⟨e1, e2⟩ := take_get hj
    exact ⟨(hbi j b c e1).1, fun hl => (hbi j b c e1).2 (lv j e2 hl)⟩
  · obtain ⟨e1, e2⟩ := take_get hi
    obtain ⟨e3, e4⟩ := take_get hj
    exact hbj i j b c c' e1 e3 (lv i e2 li) (lv j e4 lj)
  · obtain ⟨e1, e2⟩ := take_get hj
    exact (hB j d x e1 (by rw [List.getElem?_append_left e2]; exact hx)).take (fun k cs he => hb0 x (List.mem_of_getElem? hx) k cs he)
  rintro en w' ⟨v, F', box1, tok, frs, r, b1, h1, h2, h3, h4, h5, h6, h7, h8, h9, h10, h11, h12, h13, h14, h15, h16⟩
  have hb1 := hΦ _ _ _ h1
  have hbx : box1 = box0.take b0.length := by
    refine List.ext_getElem? fun j => ?_
    rcases Nat.lt_or_ge j b0.length with hj | hj
    · have : (box0.take b0.length)[j]? = some ((box0.take b0.length)[j]'(by omega)) := List.getElem?_eq_getElem (by omega)
      rw [this]; exact h6 j _ this
    · rw [List.getElem?_eq_none (by omega), List.getElem?_eq_none (by omega)]
  subst hbx
  have dd : ∀ (bb : List ABox), bb.length = b0.length → ∀ j, j < box0.length → live (bb ++ deads n) j → j < b0.length ∧ live bb j := fun bb hbb j hj hl => by
    rcases Nat.lt_or_ge j b0.length with h | h
    · exact ⟨h, fun hd => hl (by rw [List.getElem?_append_left (by omega)]; exact hd)⟩
    · exact absurd (by rw [List.getElem?_append_right (by omega), deads, List.getElem?_replicate, if_pos (by omega)]) hl
  have up : ∀ (j : Nat) d, (box0.take b0.length)[j]? = some d → box0[j]? = some d := fun j d hj => (take_get hj).1
  have dn : ∀ (j : Nat) d, box0[j]? = some d → j < b0.length → (box0.take b0.length)[j]? = some d := fun j d hj hlt => by rw [List.getElem?_take, if_pos hlt]; exact hj
  refine ⟨v, F', box0, tok, frs, r, b1 ++ deads n, ⟨b1, h1, rfl⟩, h2, ⟨h3.drawn, h3.os, h3.tape, h3.output, h3.size, fun k hk hn => h3.block k hk fun j c hj => hn j c (mask_pre b0 (deads n) box0 j _ hj)⟩, h4, h5, fun _ _ h => h,
    by rw [List.length_append, deads, List.length_replicate, hb1, hl0], fun j b c hj hb => ?_, fun j b c hj hl hor => ?_, fun i j b c c' hi hj li lj oi oj => ?_, fun j d x hj hx hor => ?_, h12, h13, h14, fun k b j c hk hj => ?_, h16.later (Later.refl _ _ _ _) up⟩
  · have := getElem?_lt hb; omega
  · obtain ⟨e1, e2⟩ := dd b1 hb1 j (getElem?_lt hj) hl
    exact h9 j b c (dn j _ hj e1) e2 (hor.elim (fun h => .inl (by omega)) fun h => .inr (dd b0 rfl j (getElem?_lt hj) h).2)
  · obtain ⟨e1, e2⟩ := dd b1 hb1 i (getElem?_lt hi) li
    obtain ⟨e3, e4⟩ := dd b1 hb1 j (getElem?_lt hj) lj
    exact h10 i j b c c' (dn i _ hi e1) (dn j _ hj e3) e2 e4 (oi.elim (fun h => .inl (by omega)) fun h => .inr (dd b0 rfl i (getElem?_lt hi) h).2) (oj.elim (fun h => .inl (by omega)) fun h => .inr (dd b0 rfl j (getElem?_lt hj) h).2)
  · have hjl := getElem?_lt hj
    rcases Nat.lt_or_ge j b0.length with hlt' | hge
    · rw [List.getElem?_append_left (by omega)] at hx
      refine (h11 j d x (dn j _ hj hlt') hx ?_).wide up
      rcases hor with h | h
      · omega
      · exact .inr (dd b0 rfl j hjl h).2
    · rw [List.getElem?_append_right (by omega)] at hx
      rw [deads_get hx]
      cases d <;> exact trivial
  · intro hl
    obtain ⟨e1, e2⟩ := dd b1 hb1 j (getElem?_lt hj) hl
    exact h15 k b j c hk (dn j _ hj e1) e2
mutual
theorem mapK_old : ∀ (f : Nat → Option Nat) (x : Tr), mapK f (old x) = old x
  | _, .v _ => rfl
  | _, .s _ => rfl
  | f, .l _ _ xs => by rw [old, mapK, mapTLL_old f xs]; rfl
  | f, .a fs => by rw [old, mapK, mapKL_old f fs]
  | f, .p fs => by rw [old, mapK, mapKL_old f fs]
theorem mapKL_old : ∀ (f : Nat → Option Nat) (xs : List Tr), mapK.mapKL f (oldL xs) = oldL xs
  | _, [] => rfl
  | f, x :: xs => by rw [oldL, mapK.mapKL, mapK_old f x, mapKL_old f xs]
end
theorem shiftK_old (n : Nat) (x : Tr) : shiftK n (old x) = old x := by
  cases n with
  | zero => rfl
  | succ n => exact mapK_old _ x
theorem Lends.deads : ∀ b : List ABox, Lends b (deads b.length)
  | [] => .nil
  | x :: b => .hide x (Lends.deads b)
theorem merge_deads : ∀ b : List ABox, merge b (deads b.length) (deads b.length) = b
  | [] => rfl
  | x :: b => by
    show x :: merge b (Abs.deads b.length) (Abs.deads b.length) = _
    rw [merge_deads b]
/-- a call without boxes, likewise -/
theorem Ret.lent {f : Nat} {args : List AV} {r : AV} {frs : Fr} (h : Ret mo P f args r frs) : Lent mo P f [] args (fun x b z => x = mapT noTok r ∧ b = [] ∧ z = []) := by
  rw [Lent_eq]; rw [Ret_eq] at h
  refine ⟨h.1, fun w F vs box0 hc hout hbl hbi hbj hB hargs => ?_⟩
  have e0 : box0 = [] := List.eq_nil_of_length_eq_zero hbl
  subst e0
  refine (h.2 w F vs hc hout hargs).mono ?_
  rintro en w' ⟨v, F', tok, box, h3, h4, h5, h6, h7, h8, h9, h10⟩
  exact ⟨v, F', [], [], [], _, [], ⟨rfl, rfl, rfl⟩, h3, ⟨h4.drawn, h4.os, h4.tape, h4.output, h4.size, fun k hk _ => h4.block k hk⟩, h5, h6, fun _ _ h => h, rfl, by simp, by simp, by simp, by simp, rfl, by simp, by simp, by simp, h10.mapT _ (fun _ _ h => by cases h) (fun _ _ h => by cases h) []⟩
theorem SeesL.toC {vs ys : List AV} (h : SeesL Sees0 vs ys) : SeesL SeesC vs ys := by
  induction h with
  | nil => exact .nil
  | cons h _ ih => exact .cons (.inr h) ih
def tByte : Ty Int where
  sz := 1
  q n := [.v (.int .u8 n)]
  tk n _ := [.val (.int .u8 n)]
  fr _ := []
  size _ := 0
  bd n := 0 ≤ n ∧ n < 256
  cl := [.int .u8]
  hcl xs h := by
    cases h with
    | int k n h hs =>
      cases hs
      simp only [Lit.wf, Bool.and_eq_true, decide_eq_true_eq] at h
      have h1 : IntKind.u8.min = 0 := rfl
      have h2 : IntKind.u8.max = 255 := rfl
      exact ⟨n, rfl, by omega, by omega⟩
  hq _ := rfl
  hok _ := rfl
  htk _ _ := rfl
  hnr _ _ c hc := by simp at hc; subst hc; rfl
  hsh _ _ _ := rfl
  hse _ _ := rfl
  hown a _ _ _ := ⟨_, .v _ rfl .nil, .refl _⟩
def curB (l : List Int) (i h : Int) : ABox := .cells .var [.list none (rows tByte l), .val (.int .i64 i), .val (.int .i64 h)]
structure CurOk (l : List Int) (i : Int) : Prop where
  lo : 0 ≤ i
  hi : i ≤ l.length
  len : l.length ≤ 4096
  byte : ∀ x ∈ l, 0 ≤ x ∧ x < 256
theorem curB_in (l : List Int) (i h : Int) (m : Nat) : ∀ k cs, curB l i h = .cells k cs → inB.inBL m cs := by rintro _ _ ⟨⟩; exact ⟨trivial, trivial, trivial, trivial⟩
theorem noTkLL_of : ∀ {xs : List (List AV)}, (∀ x ∈ xs, ∀ c ∈ x, noTk c = true) → noTkLL xs = true
  | [], _ => rfl
  | x :: xs, h => by
    have h1 : ∀ {cs : List AV}, (∀ c ∈ cs, noTk c = true) → noTkL cs = true := by
      intro cs
      induction cs with
      | nil => intro _; rfl
      | cons c cs ih => intro h; rw [noTkL, h c (by simp), ih fun d hd => h d (by simp [hd])]; rfl
    rw [noTkLL, h1 (h x (by simp)), noTkLL_of fun y hy => h y (by simp [hy])]; rfl
theorem rows_noTk (l : List Int) : noTkLL (oldLL (l.map tByte.q)) = true := noTkLL_of fun x hx c hc => by
  rw [oldLL_eq] at hx
  obtain ⟨e, he, rfl⟩ := List.mem_map.1 hx
  obtain ⟨n, _, rfl⟩ := List.mem_map.1 he
  simp [tByte, old] at hc
  subst hc; rfl
/-- Lent a cursor, the function hands back some X a of which Q is known, which is only read, and moves the cursor on. -/
def Drw {α : Type} (mo : Bool) (P : Program) (f : Nat) (args : List AV) (Q : α → Prop) (X : α → Tr) : Prop :=
  ∀ l i h, CurOk l i → Lent mo P f [curB l i h] (.bptr 0 0 :: args) (fun r b1 f1 => ∃ a i' h', CurOk l i' ∧ b1 = [curB l i' h'] ∧ f1 = [] ∧ Q a ∧ r = old (X a))
/-- .. what its code has to show -/
def DrwEnd {α : Type} (l : List Int) (Q : α → Prop) (X : α → Tr) (r : AV) (b1 : List ABox) (_ : Fr) : Prop := ∃ a i' h' bs, CurOk l i' ∧ b1 = curB l i' h' :: bs ∧ Q a ∧ Sees0 r (old (X a))
theorem DrwEnd.at {α : Type} {l : List Int} {Q : α → Prop} {X : α → Tr} {r : AV} {i h : Int} {bs : List ABox} {fr : Fr} (a : α) (hc : CurOk l i) (hq : Q a) (he : Sees0 r (old (X a)) := by repeat' first | exact SeesL.nil | refine SeesL.cons ?_ ?_ | exact Sees0.val _ | exact Sees0.str _ | exact Sees0.olds _ _ | exact Sees0.old _ | exact Sees0.oldagg _ | exact Sees0.nil | refine Sees0.agg ?_ | refine Sees0.tup ?_ | exact Sees0.list rfl) : DrwEnd l Q X r (curB l i h :: bs) fr := ⟨a, i, h, bs, hc, rfl, hq, he⟩
theorem Drw.of {α : Type} {f : Nat} {args : List AV} {Q : α → Prop} {X : α → Tr} (h : ∀ l i h, CurOk l i → Lent mo P f [curB l i h] (.bptr 0 0 :: args) (DrwEnd l Q X)) : Drw mo P f args Q X := fun l i h0 hi =>
  (h l i h0 hi).trim (by
    rintro r b fr ⟨a, i', h', bs, h1, rfl, h2, h3⟩
    refine ⟨_, ⟨a, i', h', h1, rfl, rfl, h2, rfl⟩, h3, fun x hx k cs he => ?_⟩
    rw [List.mem_singleton.1 hx] at he
    exact curB_in l i' h' _ k cs he)
theorem FinalC.cur {Φ : AV → List ABox → Fr → Prop} {r : AV} {l : List Int} {i h : Int} {bs : List ABox} {f : Fr} (hk : Φ r (curB l i h :: Abs.deads bs.length) f) : FinalC Φ r (curB l i h :: bs) f :=
  ⟨_, .lend _ _ (fun c hc => by
    simp only [List.mem_cons, List.not_mem_nil, or_false] at hc
    rcases hc with rfl | rfl | rfl
    · show noTkLL (oldLL _) = true
      rw [rows_noTk]
    · rfl
    · rfl) (Lends.deads bs), hk⟩
theorem BoxOk.anyBox {B : Nat} {w : World} {F : Nat → Nat} {tok : List (Option Nat)} {fr : Fr} {box : List BId} (box' : List BId) {d : BId} {x : ABox} (h : BoxOk B w F tok fr box d x) (hx : ∀ k cs, x = .cells k cs → ∀ y ∈ cs, noRef y = true) : BoxOk B w F tok fr box' d x := by
  cases d with
  | blk b c =>
    cases x with
    | cells k cs =>
      obtain ⟨c', t, h1, h2, h3, h4⟩ := h
      exact ⟨c', t, h1, h2, fun i y hy => ⟨(h3 i y hy).1.anyBox _ (hx k cs rfl y (List.mem_of_getElem? hy)), (h3 i y hy).2⟩, h4⟩
    | iter s p => exact h
    | map m => exact h
    | vmap kk vk m => exact h
    | dead => exact trivial
  | nil =>
    cases x with
    | cells k cs => exact h
    | iter s p => exact h
    | map m => exact h
    | vmap kk vk m => exact h
    | dead => exact trivial
theorem mask_at {c : ABox} (hc : c ≠ .dead) (rest : List ABox) : ∀ (m : Nat) (box : List BId) (d : BId), box[m]? = some d → (mask (deads m ++ c :: rest) box)[m]? = some d
  | 0, [], _, h => by simp at h
  | 0, x :: box, d, h => by
    simp at h; subst h
    cases c <;> first | rfl | exact absurd rfl hc
  | m + 1, [], _, h => by simp at h
  | m + 1, x :: box, d, h => by
    show (mask (.dead :: (deads m ++ c :: rest)) (x :: box))[m + 1]? = some d
    simp only [mask, List.getElem?_cons_succ]
    exact mask_at hc rest m box d (by simpa using h)
theorem at_live {m n j : Nat} {c : ABox} (hj : j < m + 1 + n) (h : live (deads m ++ c :: deads n) j) : j = m ∧ live [c] 0 := by
  rcases Nat.lt_trichotomy j m with h1 | h1 | h1
  · exact absurd (by rw [List.getElem?_append_left (by rw [deads_len]; exact h1), deads, List.getElem?_replicate, if_pos h1]) h
  · subst h1
    refine ⟨rfl, fun hd => h ?_⟩
    rw [List.getElem?_append_right (by rw [deads_len]; exact Nat.le_refl _), deads_len, Nat.sub_self]
    simpa using hd
  · refine absurd ?_ h
    rw [List.getElem?_append_right (by rw [deads_len]; omega)]
    obtain ⟨q, rfl⟩ : ∃ q, j = m + 1 + q := ⟨j - m - 1, by omega⟩
    rw [deads_len, show m + 1 + q - m = q + 1 by omega, List.getElem?_cons_succ, deads, List.getElem?_replicate, if_pos (by omega)]
theorem at_get (m n : Nat) (c : ABox) : (deads m ++ c :: deads n)[m]? = some c := by
  rw [List.getElem?_append_right (by rw [deads_len]; exact Nat.le_refl _), deads_len, Nat.sub_self]; rfl
/-- .. wherever the box lies -/
theorem Lent.at {f : Nat} {c : ABox} {args : List AV} {Φ : AV → List ABox → Fr → Prop} (h : Lent mo P f [c] (.bptr 0 0 :: args) Φ) (m n : Nat) (hd : c ≠ .dead) (ha : ∀ x ∈ args, noRef x = true) (hc : ∀ k cs, c = .cells k cs → ∀ y ∈ cs, noRef y = true)
    (hΦ : ∀ r b fr, Φ r b fr → noRef r = true ∧ ∃ c', b = [c'] ∧ ∀ k cs, c' = .cells k cs → ∀ y ∈ cs, noRef y = true) : Lent mo P f (deads m ++ c :: deads n) (.bptr m 0 :: args) (fun r b1 f1 => ∃ c', Φ r [c'] f1 ∧ b1 = deads m ++ c' :: deads n) := by
  rw [Lent_eq] at *
  refine ⟨h.1, fun w F vs box0 hcond hout hbl hbi hbj hB hargs => ?_⟩
  have hl0 : box0.length = m + 1 + n := by rw [hbl, List.length_append, List.length_cons, deads, deads, List.length_replicate, List.length_replicate]; omega
  obtain ⟨d, hdm⟩ : ∃ d, box0[m]? = some d := ⟨_, List.getElem?_eq_getElem (by omega)⟩
  have hlm : live (deads m ++ c :: deads n) m := fun h => hd (Option.some.inj ((at_get m n c).symm.trans h))
  obtain ⟨vs⟩ := vs
  obtain ⟨v0, vr, rfl⟩ : ∃ v0 vr, vs = v0 :: vr := by
    cases vs with
    | nil => have := hargs.1; simp at this
    | cons a l => exact ⟨a, l, rfl⟩
  obtain ⟨r0, rr⟩ := Both.cons.1 hargs
  obtain ⟨bb, cap, hbb, rfl⟩ := r0.bptr_inv
  rw [hdm] at hbb
  cases hbb
  refine (h.2 w F _ [.blk bb cap] (hcond.sub fun j b c hj => ⟨m, by cases j with
    | zero => simp at hj; rw [hdm, hj.1, hj.2]
    | succ j => simp at hj⟩) hout rfl (fun j b c hj => ?_) (fun i j b c c' hi hj _ _ => ?_) (fun j d x hj hx => ?_) (Both.cons.2 ⟨.bptr 0 0 bb cap rfl, rr.1, fun i x v hx hv => (rr.2 i x v hx hv).anyBox _ (ha x (List.mem_of_getElem? hx))⟩)).mono ?_
  · cases j with
    | zero => simp at hj; obtain ⟨rfl, rfl⟩ := hj; exact ⟨(hbi m bb cap hdm).1, fun _ => (hbi m bb cap hdm).2 hlm⟩
    | succ j => simp at hj
  · cases i <;> cases j <;> simp at hi hj ⊢
  · cases j with
    | zero => simp at hj hx; subst hj; subst hx; exact (hB m _ _ hdm (at_get m n c)).anyBox _ hc
    | succ j => simp at hj
  rintro en w' ⟨v, F', box1, tok, frs, r, b1, h1, h2, h3, h4, h5, h6, h7, h8, h9, h10, h11, h12, h13, h14, h15, h16⟩
  obtain ⟨hr, c', rfl, hc'⟩ := hΦ _ _ _ h1
  have hbx : box1 = [.blk bb cap] := by
    have := h6 0 _ rfl
    cases box1 with
    | nil => simp at this
    | cons y l =>
      simp at this h7
      subst this; rw [h7]
  subst hbx
  have at0 : ∀ j, j < box0.length → live (deads m ++ c' :: deads n) j → j = m ∧ live [c'] 0 := fun j hj hl => at_live (by omega) hl
  refine ⟨v, F', box0, tok, frs, r, deads m ++ c' :: deads n, ⟨c', h1, rfl⟩, h2, ⟨h3.drawn, h3.os, h3.tape, h3.output, h3.size, fun k hk hn => h3.block k hk fun j cc hj => ?_⟩, h4, h5, fun _ _ h => h,
    by rw [List.length_append, List.length_cons, deads, deads, List.length_replicate, List.length_replicate, hl0]; omega, fun j b c hj hb => ?_, fun j b cc hj hl hor => ?_, fun i j b cc cc' hi hj li lj oi oj => ?_, fun j dd x hj hx hor => ?_, h12, h13, h14, fun k b j cc hk hj => ?_, h16.anyBox _ hr⟩
  · obtain ⟨e1, e2, e3⟩ := mask_get _ _ _ _ _ hj
    cases j with
    | zero => simp at e1; exact hn m cap (by rw [← e1.1]; exact mask_at hd _ m box0 _ hdm)
    | succ j => simp at e1
  · have := getElem?_lt hb; omega
  · obtain ⟨rfl, e2⟩ := at0 j (getElem?_lt hj) hl
    rw [hdm] at hj; cases hj
    exact h9 0 bb cap rfl e2 (.inr fun h => hd (by simpa using h))
  · exact (at0 i (getElem?_lt hi) li).1.trans (at0 j (getElem?_lt hj) lj).1.symm
  · rcases Nat.lt_trichotomy j m with e | e | e
    · rw [List.getElem?_append_left (by rw [deads_len]; exact e)] at hx
      rw [deads_get hx]; cases dd <;> exact trivial
    · subst e
      rw [at_get] at hx; cases hx
      rw [hdm] at hj; cases hj
      exact (h11 0 _ _ rfl rfl (.inr fun h => hd (by simpa using h))).anyBox _ hc'
    · rw [List.getElem?_append_right (by rw [deads_len]; omega)] at hx
      obtain ⟨q, rfl⟩ : ∃ q, j = m + 1 + q := ⟨j - m - 1, by omega⟩
      rw [deads_len, show m + 1 + q - m = q + 1 by omega, List.getElem?_cons_succ] at hx
      rw [deads_get hx]; cases dd <;> exact trivial
  · intro hl
    obtain ⟨rfl, e2⟩ := at0 j (getElem?_lt hj) hl
    rw [hdm] at hj; cases hj
    exact h15 k bb 0 cap hk rfl e2
mutual
theorem noRef_old : ∀ x : Tr, noRef (old x) = true
  | .v _ => rfl
  | .s _ => rfl
  | .l _ _ _ => rfl
  | .a fs => noRef_oldL fs
  | .p fs => noRef_oldL fs
theorem noRef_oldL : ∀ xs : List Tr, noRef.noRefL (oldL xs) = true
  | [] => rfl
  | x :: xs => by rw [oldL, noRef.noRefL, noRef_old x, noRef_oldL xs]; rfl
end
theorem curB_ref (l : List Int) (i h : Int) : ∀ k cs, curB l i h = .cells k cs → ∀ y ∈ cs, noRef y = true := by
  rintro _ _ ⟨⟩ y hy
  simp only [List.mem_cons, List.not_mem_nil, or_false] at hy
  rcases hy with rfl | rfl | rfl <;> rfl
theorem curB_tk (l : List Int) (i h : Int) : ∀ y ∈ [AV.list none (rows tByte l), .val (.int .i64 i), .val (.int .i64 h)], noTk y = true := fun y hy => by
  simp only [List.mem_cons, List.not_mem_nil, or_false] at hy
  rcases hy with rfl | rfl | rfl
  · show noTkLL (oldLL _) = true
    rw [rows_noTk]
  · rfl
  · rfl
theorem lends_at (c : List AV) (k : RK) (hc : ∀ y ∈ c, noTk y = true) (post : List ABox) : ∀ pre : List ABox, Lends (pre ++ .cells k c :: post) (deads pre.length ++ .cells k c :: deads post.length)
  | [] => .lend k c hc (Lends.deads post)
  | x :: pre => .hide x (lends_at c k hc post pre)
theorem merge_at (c c' : List AV) (k : RK) (post : List ABox) : ∀ pre : List ABox, merge (pre ++ .cells k c :: post) (deads pre.length ++ .cells k c :: deads post.length) (deads pre.length ++ .cells k c' :: deads post.length) = pre ++ .cells k c' :: post
  | [] => by
    show ABox.cells k c' :: merge post (deads post.length) (deads post.length) = _
    rw [merge_deads]; rfl
  | x :: pre => by
    show x :: merge (pre ++ .cells k c :: post) (deads pre.length ++ .cells k c :: deads post.length) (deads pre.length ++ .cells k c' :: deads post.length) = _
    rw [merge_at c c' k post pre]; rfl
theorem ACall.drw {α : Type} {f : Nat} {vs args : List AV} {j : Nat} {l : List Int} {i h : Int} {b : List ABox} {fr : Fr} {k : AV → List ABox → Fr → Prop} {Q : α → Prop} {X : α → Tr} (hD : Drw mo P f args Q X) (hb : b[j]? = some (curB l i h)) (hi : CurOk l i)
    (hv : SeesL SeesC vs (.bptr j 0 :: args)) (ha : noRef.noRefL args = true) (hk : ∀ a i' h', CurOk l i' → Q a → k (Abs.old (X a)) (b.set j (curB l i' h')) fr) : ACall (Kn mo P) true f vs b fr k := by
  have hj := getElem?_lt hb
  have eb : b = b.take j ++ curB l i h :: b.drop (j + 1) := by
    have h1 : b[j] = curB l i h := by rw [List.getElem?_eq_getElem hj] at hb; exact Option.some.inj hb
    rw [← h1, ← List.drop_eq_getElem_cons hj, List.take_append_drop]
  have el : (b.take j).length = j := by rw [List.length_take]; omega
  have es : ∀ c, b.set j c = b.take j ++ c :: b.drop (j + 1) := fun c => by rw [List.set_eq_take_append_cons_drop, if_pos hj]
  rw [noRefL_all, List.all_eq_true] at ha
  have hL := (hD l i h hi).at j (b.drop (j + 1)).length (by intro h; cases h) ha (curB_ref l i h) (by
    rintro r b fr ⟨a, i', h', _, rfl, _, _, rfl⟩
    exact ⟨noRef_old _, _, rfl, curB_ref l i' h'⟩)
  have hlen := lends_at _ .var (curB_tk l i h) (b.drop (j + 1)) (b.take j)
  rw [el] at hlen
  refine .lent rfl _ _ _ hL (Eq.mp (congrArg (fun x => Lends x (Abs.deads j ++ curB l i h :: Abs.deads (b.drop (j + 1)).length)) eb.symm) hlen) hv ?_
  rintro _ _ _ ⟨_, ⟨a, i', h', h1, h2, rfl, h3, rfl⟩, rfl⟩
  cases h2
  rw [shiftK_old, List.append_nil]
  have em := merge_at [AV.list none (rows tByte l), .val (.int .i64 i), .val (.int .i64 h)] [AV.list none (rows tByte l), .val (.int .i64 i'), .val (.int .i64 h')] .var (b.drop (j + 1)) (b.take j)
  rw [el] at em
  have e2 : merge b (Abs.deads j ++ curB l i h :: Abs.deads (b.drop (j + 1)).length) (Abs.deads j ++ curB l i' h' :: Abs.deads (b.drop (j + 1)).length) = b.set j (curB l i' h') := by
    rw [es]
    refine Eq.trans ?_ em
    show merge b _ _ = merge (b.take j ++ curB l i h :: b.drop (j + 1)) _ _
    rw [← eb]; rfl
  rw [e2]; exact hk a i' h' h1 h3
/-- .. and what is handed back is the caller's own, in slices G a -/
structure DrwK {α : Type} (mo : Bool) (P : Program) (f : Nat) (args : List AV) (Q : α → Prop) (Z : Nat → α → AV) (G : α → Fr) : Prop where
  sh : ∀ n a, shiftK n (Z 0 a) = Z n a
  nr : ∀ a, noRef (Z 0 a) = true
  lent : ∀ l i h, CurOk l i → Lent mo P f [curB l i h] (.bptr 0 0 :: args) (fun r b1 f1 => ∃ a i' h', CurOk l i' ∧ b1 = [curB l i' h'] ∧ f1 = G a ∧ Q a ∧ r = Z 0 a)
def DrwEndK {α : Type} (l : List Int) (Q : α → Prop) (Z : Nat → α → AV) (G : α → Fr) (r : AV) (b1 : List ABox) (fr : Fr) : Prop := ∃ a i' h' bs, CurOk l i' ∧ b1 = curB l i' h' :: bs ∧ Q a ∧ r = Z 0 a ∧ fr = G a
theorem DrwEndK.at {α : Type} {l : List Int} {Q : α → Prop} {Z : Nat → α → AV} {G : α → Fr} {r : AV} {i h : Int} {bs : List ABox} {fr : Fr} (a : α) (hc : CurOk l i) (hq : Q a) (he : r = Z 0 a) (hf : fr = G a) : DrwEndK l Q Z G r (curB l i h :: bs) fr := ⟨a, i, h, bs, hc, rfl, hq, he, hf⟩
theorem Lent.trimK {f : Nat} {b0 : List ABox} {args : List AV} {Φ Ψ : AV → List ABox → Fr → Prop} (h : Lent mo P f b0 args Φ)
    (hΦ : ∀ r b fr, Φ r b fr → Ψ r (b.take b0.length) fr ∧ inB b0.length r ∧ ∀ x ∈ b.take b0.length, ∀ k cs, x = .cells k cs → inB.inBL b0.length cs) : Lent mo P f b0 args Ψ := by
  rw [Lent_eq] at *
  refine ⟨h.1, fun w F vs box0 q a b c d e g => (h.2 w F vs box0 q a b c d e g).mono ?_⟩
  rintro en w' ⟨v, F', box1, tok, frs, r, b1, h1, h2, h3, h4, h5, h6, h7, h8, h9, h10, h11, h12, h13, h14, h15, h16⟩
  obtain ⟨k1, k2, k3⟩ := hΦ _ _ _ h1
  have hle : box0.length ≤ box1.length := by
    rcases Nat.lt_or_ge box1.length box0.length with h | h
    · have := getElem?_lt (h6 box1.length _ (List.getElem?_eq_getElem h)); omega
    · exact h
  have lv : ∀ j, j < b0.length → live (b1.take b0.length) j → live b1 j := fun j hj hl hd => hl (by rw [List.getElem?_take, if_pos hj]; exact hd)
  refine ⟨v, F', box1.take b0.length, tok, frs, _, b1.take b0.length, k1, h2, h3, h4, h5, fun j d hj => ?_, by rw [List.length_take, List.length_take, h7], fun j b c hj hb => ?_, fun j b c hj hl => ?_, fun i j b c c' hi hj li lj => ?_, fun j d x hj hx => ?_, h12, h13, h14, fun k b j c hk hj => ?_, h16.take k2⟩
  · rw [List.getElem?_take, if_pos (by have := getElem?_lt hj; omega)]; exact h6 j d hj
  · have := (take_get hb).2; omega
  · obtain ⟨e1, e2⟩ := take_get hj
    exact h9 j b c e1 (lv j e2 hl)
  · obtain ⟨e1, e2⟩ := take_get hi
    obtain ⟨e3, e4⟩ := take_get hj
    exact h10 i j b c c' e1 e3 (lv i e2 li) (lv j e4 lj)
  · obtain ⟨e1, e2⟩ := take_get hj
    obtain ⟨e3, e4⟩ := take_get hx
    intro hor
    exact (h11 j d x e1 e3 hor).take (fun k cs he => k3 x (List.mem_of_getElem? hx) k cs he)
  · obtain ⟨e1, e2⟩ := take_get hj
    exact fun hl => h15 k b j c hk e1 (lv j e2 hl)
theorem inB_noRef (m : Nat) : ∀ {x : AV}, noRef x = true → inB m x
  | .bptr _ _, h => nomatch h
  | .bsl _ _, h => nomatch h
  | .bmap _, h => nomatch h
  | .tag _ x, h => inB_noRef m (x := x) h
  | .agg cs, h => inB_noRefL m (cs := cs) h
  | .tup cs, h => inB_noRefL m (cs := cs) h
  | .clo _ a b, h => by
    have h : (noRef.noRefL a && noRef.noRefL b) = true := h
    rw [Bool.and_eq_true] at h
    exact ⟨inB_noRefL m h.1, inB_noRefL m h.2⟩
  | .cond _ _, h => nomatch h
  | .any, _ => trivial
  | .val _, _ => trivial
  | .str _, _ => trivial
  | .list _ _, _ => trivial
  | .rptr _, _ => trivial
where inB_noRefL (m : Nat) : ∀ {cs : List AV}, noRef.noRefL cs = true → inB.inBL m cs
  | [], _ => trivial
  | c :: cs, h => by
    have h : (noRef c && noRef.noRefL cs) = true := h
    rw [Bool.and_eq_true] at h
    exact ⟨inB_noRef m h.1, inB_noRefL m h.2⟩
theorem DrwK.of {α : Type} {f : Nat} {args : List AV} {Q : α → Prop} {Z : Nat → α → AV} {G : α → Fr} (sh : ∀ n a, shiftK n (Z 0 a) = Z n a) (nr : ∀ a, noRef (Z 0 a) = true) (h : ∀ l i h, CurOk l i → Lent mo P f [curB l i h] (.bptr 0 0 :: args) (DrwEndK l Q Z G)) : DrwK mo P f args Q Z G :=
  ⟨sh, nr, fun l i h0 hi => (h l i h0 hi).trimK (by
    rintro r b fr ⟨a, i', h', bs, h1, rfl, h2, rfl, rfl⟩
    refine ⟨⟨a, i', h', h1, rfl, rfl, h2, rfl⟩, inB_noRef _ (nr a), fun x hx k cs he => ?_⟩
    rw [List.mem_singleton.1 hx] at he
    exact curB_in l i' h' _ k cs he)⟩
theorem ACall.drwK {α : Type} {f : Nat} {vs args : List AV} {j : Nat} {l : List Int} {i h : Int} {b : List ABox} {fr : Fr} {k : AV → List ABox → Fr → Prop} {Q : α → Prop} {Z : Nat → α → AV} {G : α → Fr} (hD : DrwK mo P f args Q Z G) (hb : b[j]? = some (curB l i h)) (hi : CurOk l i)
    (hv : SeesL SeesC vs (.bptr j 0 :: args)) (ha : noRef.noRefL args = true) (hk : ∀ a i' h', CurOk l i' → Q a → k (Z fr.length a) (b.set j (curB l i' h')) (fr ++ G a)) : ACall (Kn mo P) true f vs b fr k := by
  have hj := getElem?_lt hb
  have eb : b = b.take j ++ curB l i h :: b.drop (j + 1) := by
    have h1 : b[j] = curB l i h := by rw [List.getElem?_eq_getElem hj] at hb; exact Option.some.inj hb
    rw [← h1, ← List.drop_eq_getElem_cons hj, List.take_append_drop]
  have el : (b.take j).length = j := by rw [List.length_take]; omega
  have es : ∀ c, b.set j c = b.take j ++ c :: b.drop (j + 1) := fun c => by rw [List.set_eq_take_append_cons_drop, if_pos hj]
  rw [noRefL_all, List.all_eq_true] at ha
  have hL := (hD.lent l i h hi).at j (b.drop (j + 1)).length (by intro h; cases h) ha (curB_ref l i h) (by
    rintro r b fr ⟨a, i', h', _, rfl, _, _, rfl⟩
    exact ⟨hD.nr a, _, rfl, curB_ref l i' h'⟩)
  have hlen := lends_at _ .var (curB_tk l i h) (b.drop (j + 1)) (b.take j)
  rw [el] at hlen
  refine .lent rfl _ _ _ hL (Eq.mp (congrArg (fun x => Lends x (Abs.deads j ++ curB l i h :: Abs.deads (b.drop (j + 1)).length)) eb.symm) hlen) hv ?_
  rintro _ _ _ ⟨_, ⟨a, i', h', h1, h2, rfl, h3, rfl⟩, rfl⟩
  cases h2
  rw [hD.sh]
  have em := merge_at [AV.list none (rows tByte l), .val (.int .i64 i), .val (.int .i64 h)] [AV.list none (rows tByte l), .val (.int .i64 i'), .val (.int .i64 h')] .var (b.drop (j + 1)) (b.take j)
  rw [el] at em
  have e2 : merge b (Abs.deads j ++ curB l i h :: Abs.deads (b.drop (j + 1)).length) (Abs.deads j ++ curB l i' h' :: Abs.deads (b.drop (j + 1)).length) = b.set j (curB l i' h') := by
    rw [es]
    refine Eq.trans ?_ em
    show merge b _ _ = merge (b.take j ++ curB l i h :: b.drop (j + 1)) _ _
    rw [← eb]; rfl
  rw [e2]; exact hk a i' h' h1 h3
/-- a draw by a code -/
def Drt {α : Type} (mo : Bool) (P : Program) (f : Nat) (Q : α → Prop) (X : α → Tr) : Prop :=
  ∀ l i, CurOk l i → Lent mo P f [] [.list none (rows tByte l)] (fun r b1 f1 => ∃ a, b1 = [] ∧ f1 = [] ∧ Q a ∧ r = old (X a))
theorem Drt.of {α : Type} {f : Nat} {Q : α → Prop} {X : α → Tr} (h : ∀ l i, CurOk l i → Lent mo P f [] [.list none (rows tByte l)] (fun r _ _ => ∃ a, Q a ∧ Sees0 r (old (X a)))) : Drt mo P f Q X := fun l i hi =>
  (h l i hi).trim (by
    rintro r b fr ⟨a, h2, h3⟩
    exact ⟨_, ⟨a, by simp, rfl, h2, rfl⟩, h3, fun x hx => by simp at hx⟩)
theorem FinalC.hide {Φ : AV → List ABox → Fr → Prop} {r : AV} {b : List ABox} {f : Fr} (hk : Φ r (Abs.deads b.length) f) : FinalC Φ r b f := ⟨_, Lends.deads b, hk⟩
theorem ACall.drt {α : Type} {f : Nat} {vs : List AV} {l : List Int} {i : Int} {b : List ABox} {fr : Fr} {k : AV → List ABox → Fr → Prop} {Q : α → Prop} {X : α → Tr} (hD : Drt mo P f Q X) (hi : CurOk l i) (hv : SeesL Sees0 vs [.list none (rows tByte l)])
    (hk : ∀ a, Q a → k (Abs.old (X a)) b fr) : ACall (Kn mo P) true f vs b fr k := by
  refine .lent rfl (Abs.deads b.length) _ _ ((hD l i hi).wide b.length (fun x hx => by rw [List.mem_singleton.1 hx]; exact trivial) (by simp) (by rintro r b fr ⟨_, rfl, _⟩; rfl)) (Lends.deads b) hv.toC ?_
  rintro _ _ _ ⟨_, ⟨a, rfl, rfl, h2, rfl⟩, rfl⟩
  rw [shiftK_old, List.append_nil, List.nil_append, merge_deads]; exact hk a h2
end Abs
end Go.Proofs.Ytkbblglbbfdnpaa
namespace Go.Proofs.Ytkbblglbbfdnpaa
open Abs
def l1In.code : ACode := (.seq (.region false [s 6 (.mv (.const (.bool false)))]) (.seq (.region false [s 7 (.mv (t 0)), s 8 (.mv (t 1)), s 9 (.bin .geq (t 7) (t 8)), s 10 (.mv (t 9)), g 10 true 11 (.mv (t 0)), g 10 true 12 (.mv (t 2)), g 10 true 13 (.bin .leq (t 11) (t 12)), s 14 (.and (t 10) (t 13)), s 6 (.mv (t 14))]) .ret))
def l1In.keep : List Nat := [0, 1, 2, 6]
def l1In.res : List RRes := [.tmp 6]
theorem l1In.of {mo : Bool} {args : List AV} {r : AV} {frs : Fr} (hn : Nat.ble args.length Try.f93.ntmps = true) (h : aCode (Kn mo Try.prog) l1In.keep 0 l1In.code (doneK l1In.res r frs) ⟨argEnv 0 args, [], []⟩) : Abs.Ret mo Try.prog 93 args r frs :=
  Abs.Ret.of_ir Try.func93 rfl (by kernel_rfl) (Nat.le_of_ble_eq_true hn) (by kernel_rfl) (by kernel_rfl) h
abbrev l1In.Ret (args : List AV) (r : AV) (frs : Fr) : Prop := Abs.Ret true Try.prog 93 args r frs
def isDigit.code : ACode := (.seq (.region false [s 2 (.mv (.const (.bool false)))]) (.seq (.region false [s 3 (.mv (t 0)), s 4 (.bin .leq (.const (.int .i32 48)) (t 3)), s 5 (.mv (t 4)), g 5 true 6 (.mv (t 0)), g 5 true 7 (.bin .leq (t 6) (.const (.int .i32 57))), s 8 (.and (t 5) (t 7)), s 2 (.mv (t 8))]) .ret))
def isDigit.keep : List Nat := [0, 2]
def isDigit.res : List RRes := [.tmp 2]
theorem isDigit.of {mo : Bool} {args : List AV} {r : AV} {frs : Fr} (hn : Nat.ble args.length Try.f98.ntmps = true) (h : aCode (Kn mo Try.prog) isDigit.keep 0 isDigit.code (doneK isDigit.res r frs) ⟨argEnv 0 args, [], []⟩) : Abs.Ret mo Try.prog 98 args r frs :=
  Abs.Ret.of_ir Try.func98 rfl (by kernel_rfl) (Nat.le_of_ble_eq_true hn) (by kernel_rfl) (by kernel_rfl) h
abbrev isDigit.Ret (args : List AV) (r : AV) (frs : Fr) : Prop := Abs.Ret true Try.prog 98 args r frs
def isLetter.code : ACode := (.seq (.region false [s 2 (.mv (.const (.bool false)))]) (.seq (.region false [s 3 (.mv (t 0)), s 4 (.bin .leq (.const (.int .i32 97)) (t 3)), s 5 (.mv (t 4)), g 5 true 6 (.mv (t 0)), g 5 true 7 (.bin .leq (t 6) (.const (.int .i32 122))), s 8 (.and (t 5) (t 7)), s 2 (.mv (t 8))]) .ret))
def isLetter.keep : List Nat := [0, 2]
def isLetter.res : List RRes := [.tmp 2]
theorem isLetter.of {mo : Bool} {args : List AV} {r : AV} {frs : Fr} (hn : Nat.ble args.length Try.f97.ntmps = true) (h : aCode (Kn mo Try.prog) isLetter.keep 0 isLetter.code (doneK isLetter.res r frs) ⟨argEnv 0 args, [], []⟩) : Abs.Ret mo Try.prog 97 args r frs :=
  Abs.Ret.of_ir Try.func97 rfl (by kernel_rfl) (Nat.le_of_ble_eq_true hn) (by kernel_rfl) (by kernel_rfl) h
abbrev isLetter.Ret (args : List AV) (r : AV) (frs : Fr) : Prop := Abs.Ret true Try.prog 97 args r frs
def sIsAtom.code : ACode := (.seq (.region false [s 2 (.mv (.const (.bool false)))]) (.seq (.seq (.region false [s 3 (.mv (.const (.int .i64 0)))]) (.block 0 (.loop (.seq (.seq (.region false [s 4 (.mv (t 3)), s 5 (.mv (t 0)), s 6 (.len true (t 5)), s 7 (.bin .lss (t 4) (t 6))]) (.cond (t 7) .skip (.exit 0))) (.seq (.block 1 (.seq (.region false [s 10 (.mv (t 0)), s 11 (.mv (t 3)), s 12 (.index (t 10) (t 11)), s 13 (.conv .i64 (t 12)), s 14 (.call 93 [(t 13), (.const (.int .i64 97)), (.const (.int .i64 122))]), s 15 (.not (t 14)), s 16 (.mv (t 15)), g 16 true 17 (.mv (t 0)), g 16 true 18 (.mv (t 3)), g 16 true 19 (.index (t 17) (t 18)), g 16 true 20 (.conv .i64 (t 19)), g 16 true 21 (.call 93 [(t 20), (.const (.int .i64 48)), (.const (.int .i64 57))]), g 16 true 22 (.not (t 21)), s 23 (.and (t 16) (t 22))]) (.cond (t 23) (.seq (.region false [s 2 (.mv (.const (.bool false)))]) .ret) .skip))) (.region false [s 8 (.mv (t 3)), s 9 (.bin .add (t 8) (.const (.int .i64 1))), s 3 (.mv (t 9))])))))) (.seq (.region false [s 24 (.mv (t 0)), s 25 (.len true (t 24)), s 26 (.call 93 [(t 25), (.const (.int .i64 1)), (.const (.int .i64 8))]), s 2 (.mv (t 26))]) .ret)))
def sIsAtom.keep : List Nat := [0, 2, 3]
def sIsAtom.res : List RRes := [.tmp 2]
theorem sIsAtom.of {mo : Bool} {args : List AV} {r : AV} {frs : Fr} (hn : Nat.ble args.length Try.f57.ntmps = true) (h : aCode (Kn mo Try.prog) sIsAtom.keep 0 sIsAtom.code (doneK sIsAtom.res r frs) ⟨argEnv 0 args, [], []⟩) : Abs.Ret mo Try.prog 57 args r frs :=
  Abs.Ret.of_ir Try.func57 rfl (by kernel_rfl) (Nat.le_of_ble_eq_true hn) (by kernel_rfl) (by kernel_rfl) h
abbrev sIsAtom.Ret (args : List AV) (r : AV) (frs : Fr) : Prop := Abs.Ret true Try.prog 57 args r frs
def pIsAtom.code : ACode := (.seq (.region false [s 2 (.mv (.const (.bool false)))]) (.seq (.seq (.region false [s 5 (.mv (t 0)), s 6 (.bin .eql (t 5) (.const (.string (.mk #[])))), s 7 (.mv (t 6)), g 7 false 8 (.mv (t 0)), g 7 false 9 (.len true (t 8)), g 7 false 10 (.bin .gtr (t 9) (.const (.int .i64 8))), s 11 (.or (t 7) (t 10))]) (.cond (t 11) (.seq (.region false [s 2 (.mv (.const (.bool false)))]) .ret) .skip)) (.seq (.seq (.region false [s 12 (.mv (t 0)), s 13 (.range (t 12))]) (.block 0 (.loop (.seq (.region false [s 14 (.next (t 13)), s 15 (.extract (t 14) 0)]) (.seq (.cond (t 15) .skip (.exit 0)) (.block 1 (.seq (.region false [s 16 (.extract (t 14) 2), s 4 (.mv (t 16))]) (.seq (.region false [s 17 (.mv (t 4)), s 18 (.call 97 [(t 17)]), s 19 (.not (t 18)), s 20 (.mv (t 19)), g 20 true 21 (.mv (t 4)), g 20 true 22 (.call 98 [(t 21)]), g 20 true 23 (.not (t 22)), s 24 (.and (t 20) (t 23))]) (.cond (t 24) (.seq (.region false [s 2 (.mv (.const (.bool false)))]) .ret) .skip))))))))) (.seq (.region false [s 2 (.mv (.const (.bool true)))]) .ret))))
def pIsAtom.keep : List Nat := [0, 2, 4, 13, 14, 15]
def pIsAtom.res : List RRes := [.tmp 2]
theorem pIsAtom.of {mo : Bool} {args : List AV} {r : AV} {frs : Fr} (hn : Nat.ble args.length Try.f62.ntmps = true) (h : aCode (Kn mo Try.prog) pIsAtom.keep 0 pIsAtom.code (doneK pIsAtom.res r frs) ⟨argEnv 0 args, [], []⟩) : Abs.Ret mo Try.prog 62 args r frs :=
  Abs.Ret.of_ir Try.func62 rfl (by kernel_rfl) (Nat.le_of_ble_eq_true hn) (by kernel_rfl) (by kernel_rfl) h
abbrev pIsAtom.Ret (args : List AV) (r : AV) (frs : Fr) : Prop := Abs.Ret true Try.prog 62 args r frs
def sIsName.code : ACode := (.seq (.region false [s 2 (.mv (.const (.bool false)))]) (.seq (.region false [s 3 (.mv (t 0)), s 4 (.call 57 [(t 3)]), s 5 (.mv (t 4)), g 5 true 6 (.mv (t 0)), g 5 true 7 (.index (t 6) (.const (.int .i64 0))), g 5 true 8 (.conv .i64 (t 7)), g 5 true 9 (.call 93 [(t 8), (.const (.int .i64 97)), (.const (.int .i64 122))]), s 10 (.and (t 5) (t 9)), s 2 (.mv (t 10))]) .ret))
def sIsName.keep : List Nat := [0, 2]
def sIsName.res : List RRes := [.tmp 2]
theorem sIsName.of {mo : Bool} {args : List AV} {r : AV} {frs : Fr} (hn : Nat.ble args.length Try.f69.ntmps = true) (h : aCode (Kn mo Try.prog) sIsName.keep 0 sIsName.code (doneK sIsName.res r frs) ⟨argEnv 0 args, [], []⟩) : Abs.Ret mo Try.prog 69 args r frs :=
  Abs.Ret.of_ir Try.func69 rfl (by kernel_rfl) (Nat.le_of_ble_eq_true hn) (by kernel_rfl) (by kernel_rfl) h
abbrev sIsName.Ret (args : List AV) (r : AV) (frs : Fr) : Prop := Abs.Ret true Try.prog 69 args r frs
def pIsName.code : ACode := (.seq (.region false [s 2 (.mv (.const (.bool false)))]) (.seq (.region false [s 3 (.mv (t 0)), s 4 (.call 62 [(t 3)]), s 5 (.mv (t 4)), g 5 true 6 (.mv (t 0)), g 5 true 7 (.index (t 6) (.const (.int .i64 0))), g 5 true 8 (.conv .i32 (t 7)), g 5 true 9 (.call 97 [(t 8)]), s 10 (.and (t 5) (t 9)), s 2 (.mv (t 10))]) .ret))
def pIsName.keep : List Nat := [0, 2]
def pIsName.res : List RRes := [.tmp 2]
theorem pIsName.of {mo : Bool} {args : List AV} {r : AV} {frs : Fr} (hn : Nat.ble args.length Try.f107.ntmps = true) (h : aCode (Kn mo Try.prog) pIsName.keep 0 pIsName.code (doneK pIsName.res r frs) ⟨argEnv 0 args, [], []⟩) : Abs.Ret mo Try.prog 107 args r frs :=
  Abs.Ret.of_ir Try.func107 rfl (by kernel_rfl) (Nat.le_of_ble_eq_true hn) (by kernel_rfl) (by kernel_rfl) h
abbrev pIsName.Ret (args : List AV) (r : AV) (frs : Fr) : Prop := Abs.Ret true Try.prog 107 args r frs
def sIsVar.code : ACode := (.seq (.region false [s 2 (.mv (.const (.bool false)))]) (.seq (.region false [s 3 (.mv (t 0)), s 4 (.len true (t 3)), s 5 (.bin .gtr (t 4) (.const (.int .i64 1))), s 6 (.mv (t 5)), g 6 true 7 (.mv (t 0)), g 6 true 8 (.index (t 7) (.const (.int .i64 0))), g 6 true 9 (.bin .eql (t 8) (.const (.int .u8 63))), s 10 (.and (t 6) (t 9)), s 11 (.mv (t 10)), g 11 true 12 (.mv (t 0)), g 11 true 13 (.slice true 0 (t 12) (some (.const (.int .i64 1))) none), g 11 true 14 (.call 57 [(t 13)]), s 15 (.and (t 11) (t 14)), s 2 (.mv (t 15))]) .ret))
def sIsVar.keep : List Nat := [0, 2]
def sIsVar.res : List RRes := [.tmp 2]
theorem sIsVar.of {mo : Bool} {args : List AV} {r : AV} {frs : Fr} (hn : Nat.ble args.length Try.f70.ntmps = true) (h : aCode (Kn mo Try.prog) sIsVar.keep 0 sIsVar.code (doneK sIsVar.res r frs) ⟨argEnv 0 args, [], []⟩) : Abs.Ret mo Try.prog 70 args r frs :=
  Abs.Ret.of_ir Try.func70 rfl (by kernel_rfl) (Nat.le_of_ble_eq_true hn) (by kernel_rfl) (by kernel_rfl) h
abbrev sIsVar.Ret (args : List AV) (r : AV) (frs : Fr) : Prop := Abs.Ret true Try.prog 70 args r frs
def pIsVar.code : ACode := (.seq (.region false [s 2 (.mv (.const (.bool false)))]) (.seq (.region false [s 6 (.mv (t 0)), s 7 (.call 96 [(t 6), (.const (.string (.mk #[63])))]), s 5 (.mv (t 7)), s 8 (.extract (t 5) 0), s 9 (.extract (t 5) 1), s 3 (.mv (t 8)), s 4 (.mv (t 9))]) (.seq (.region false [s 10 (.mv (t 4)), s 11 (.mv (t 10)), g 11 true 12 (.mv (t 3)), g 11 true 13 (.call 62 [(t 12)]), s 14 (.and (t 11) (t 13)), s 2 (.mv (t 14))]) .ret)))
def pIsVar.keep : List Nat := [0, 2, 3, 4]
def pIsVar.res : List RRes := [.tmp 2]
theorem pIsVar.of {mo : Bool} {args : List AV} {r : AV} {frs : Fr} (hn : Nat.ble args.length Try.f61.ntmps = true) (h : aCode (Kn mo Try.prog) pIsVar.keep 0 pIsVar.code (doneK pIsVar.res r frs) ⟨argEnv 0 args, [], []⟩) : Abs.Ret mo Try.prog 61 args r frs :=
  Abs.Ret.of_ir Try.func61 rfl (by kernel_rfl) (Nat.le_of_ble_eq_true hn) (by kernel_rfl) (by kernel_rfl) h
abbrev pIsVar.Ret (args : List AV) (r : AV) (frs : Fr) : Prop := Abs.Ret true Try.prog 61 args r frs
def sIsTerm.code : ACode := (.seq (.region false [s 2 (.mv (.const (.bool false)))]) (.seq (.region false [s 3 (.mv (t 0)), s 4 (.call 57 [(t 3)]), s 5 (.mv (t 4)), g 5 false 6 (.mv (t 0)), g 5 false 7 (.call 70 [(t 6)]), s 8 (.or (t 5) (t 7)), s 2 (.mv (t 8))]) .ret))
def sIsTerm.keep : List Nat := [0, 2]
def sIsTerm.res : List RRes := [.tmp 2]
theorem sIsTerm.of {mo : Bool} {args : List AV} {r : AV} {frs : Fr} (hn : Nat.ble args.length Try.f68.ntmps = true) (h : aCode (Kn mo Try.prog) sIsTerm.keep 0 sIsTerm.code (doneK sIsTerm.res r frs) ⟨argEnv 0 args, [], []⟩) : Abs.Ret mo Try.prog 68 args r frs :=
  Abs.Ret.of_ir Try.func68 rfl (by kernel_rfl) (Nat.le_of_ble_eq_true hn) (by kernel_rfl) (by kernel_rfl) h
abbrev sIsTerm.Ret (args : List AV) (r : AV) (frs : Fr) : Prop := Abs.Ret true Try.prog 68 args r frs
def pIsTerm.code : ACode := (.seq (.region false [s 2 (.mv (.const (.bool false)))]) (.seq (.region false [s 3 (.mv (t 0)), s 4 (.call 62 [(t 3)]), s 5 (.mv (t 4)), g 5 false 6 (.mv (t 0)), g 5 false 7 (.call 61 [(t 6)]), s 8 (.or (t 5) (t 7)), s 2 (.mv (t 8))]) .ret))
def pIsTerm.keep : List Nat := [0, 2]
def pIsTerm.res : List RRes := [.tmp 2]
theorem pIsTerm.of {mo : Bool} {args : List AV} {r : AV} {frs : Fr} (hn : Nat.ble args.length Try.f90.ntmps = true) (h : aCode (Kn mo Try.prog) pIsTerm.keep 0 pIsTerm.code (doneK pIsTerm.res r frs) ⟨argEnv 0 args, [], []⟩) : Abs.Ret mo Try.prog 90 args r frs :=
  Abs.Ret.of_ir Try.func90 rfl (by kernel_rfl) (Nat.le_of_ble_eq_true hn) (by kernel_rfl) (by kernel_rfl) h
abbrev pIsTerm.Ret (args : List AV) (r : AV) (frs : Fr) : Prop := Abs.Ret true Try.prog 90 args r frs
def cutPrefix.code : ACode := (.seq (.region false [s 4 (.mv (.const (.string (.mk #[])))), s 5 (.mv (.const (.bool false)))]) (.seq (.region false [s 6 (.mv (t 0)), s 7 (.mv (t 1)), s 8 (.call 124 [(t 6), (t 7)]), s 9 (.extract (t 8) 0), s 10 (.extract (t 8) 1), s 4 (.mv (t 9)), s 5 (.mv (t 10))]) .ret))
def cutPrefix.keep : List Nat := [0, 1, 4, 5]
def cutPrefix.res : List RRes := [.tmp 4, .tmp 5]
theorem cutPrefix.of {mo : Bool} {args : List AV} {r : AV} {frs : Fr} (hn : Nat.ble args.length Try.f96.ntmps = true) (h : aCode (Kn mo Try.prog) cutPrefix.keep 0 cutPrefix.code (doneK cutPrefix.res r frs) ⟨argEnv 0 args, [], []⟩) : Abs.Ret mo Try.prog 96 args r frs :=
  Abs.Ret.of_ir Try.func96 rfl (by kernel_rfl) (Nat.le_of_ble_eq_true hn) (by kernel_rfl) (by kernel_rfl) h
abbrev cutPrefix.Ret (args : List AV) (r : AV) (frs : Fr) : Prop := Abs.Ret true Try.prog 96 args r frs
def slCutPrefix.code : ACode := (.seq (.region false [s 4 (.mv (.const (.string (.mk #[])))), s 5 (.mv (.const (.bool false)))]) (.seq (.seq (.region false [s 6 (.mv (t 0)), s 7 (.mv (t 1)), s 8 (.call 135 [(t 6), (t 7)]), s 9 (.not (t 8))]) (.cond (t 9) (.seq (.region false [s 10 (.mv (t 0)), s 4 (.mv (t 10)), s 5 (.mv (.const (.bool false)))]) .ret) .skip)) (.seq (.region false [s 11 (.mv (t 0)), s 12 (.mv (t 1)), s 13 (.len true (t 12)), s 14 (.slice true 0 (t 11) (some (t 13)) none), s 4 (.mv (t 14)), s 5 (.mv (.const (.bool true)))]) .ret)))
def slCutPrefix.keep : List Nat := [0, 1, 4, 5]
def slCutPrefix.res : List RRes := [.tmp 4, .tmp 5]
theorem slCutPrefix.of {mo : Bool} {args : List AV} {r : AV} {frs : Fr} (hn : Nat.ble args.length Try.f124.ntmps = true) (h : aCode (Kn mo Try.prog) slCutPrefix.keep 0 slCutPrefix.code (doneK slCutPrefix.res r frs) ⟨argEnv 0 args, [], []⟩) : Abs.Ret mo Try.prog 124 args r frs :=
  Abs.Ret.of_ir Try.func124 rfl (by kernel_rfl) (Nat.le_of_ble_eq_true hn) (by kernel_rfl) (by kernel_rfl) h
abbrev slCutPrefix.Ret (args : List AV) (r : AV) (frs : Fr) : Prop := Abs.Ret true Try.prog 124 args r frs
def slHasPrefix.code : ACode := (.seq (.region false [s 4 (.mv (.const (.bool false)))]) (.seq (.region false [s 5 (.mv (t 0)), s 6 (.len true (t 5)), s 7 (.mv (t 1)), s 8 (.len true (t 7)), s 9 (.bin .geq (t 6) (t 8)), s 10 (.mv (t 9)), g 10 true 11 (.mv (t 0)), g 10 true 12 (.mv (t 1)), g 10 true 13 (.len true (t 12)), g 10 true 14 (.slice true 0 (t 11) none (some (t 13))), g 10 true 15 (.mv (t 1)), g 10 true 16 (.bin .eql (t 14) (t 15)), s 17 (.and (t 10) (t 16)), s 4 (.mv (t 17))]) .ret))
def slHasPrefix.keep : List Nat := [0, 1, 4]
def slHasPrefix.res : List RRes := [.tmp 4]
theorem slHasPrefix.of {mo : Bool} {args : List AV} {r : AV} {frs : Fr} (hn : Nat.ble args.length Try.f135.ntmps = true) (h : aCode (Kn mo Try.prog) slHasPrefix.keep 0 slHasPrefix.code (doneK slHasPrefix.res r frs) ⟨argEnv 0 args, [], []⟩) : Abs.Ret mo Try.prog 135 args r frs :=
  Abs.Ret.of_ir Try.func135 rfl (by kernel_rfl) (Nat.le_of_ble_eq_true hn) (by kernel_rfl) (by kernel_rfl) h
abbrev slHasPrefix.Ret (args : List AV) (r : AV) (frs : Fr) : Prop := Abs.Ret true Try.prog 135 args r frs
def sFormatInt.code : ACode := (.seq (.region false [s 2 (.mv (.const (.string (.mk #[]))))]) (.seq (.seq (.region false [s 4 (.mv (t 0)), s 5 (.bin .eql (t 4) (.const (.int .i64 (-9223372036854775808))))]) (.cond (t 5) (.seq (.region false [s 2 (.mv (.const (.string (.mk #[45, 57, 50, 50, 51, 51, 55, 50, 48, 51, 54, 56, 53, 52, 55, 55, 53, 56, 48, 56]))))]) .ret) .skip)) (.seq (.seq (.region false [s 6 (.mv (t 0)), s 7 (.bin .lss (t 6) (.const (.int .i64 0)))]) (.cond (t 7) (.seq (.region false [s 8 (.mv (t 0)), s 9 (.neg (t 8)), s 10 (.call 88 [(t 9)]), s 11 (.bin .add (.const (.string (.mk #[45]))) (t 10)), s 2 (.mv (t 11))]) .ret) .skip)) (.seq (.region false [s 3 (.mv (.const (.string (.mk #[]))))]) (.block 0 (.loop (.block 1 (.seq (.region false [s 12 (.mv (t 0)), s 13 (.bin .rem (t 12) (.const (.int .i64 10))), s 14 (.bin .add (.const (.int .i64 48)) (t 13)), s 15 (.conv .u8 (t 14)), s 16 (.bslice 5 1 true [(t 15)]), s 17 (.b2s (t 16)), s 18 (.mv (t 3)), s 19 (.bin .add (t 17) (t 18)), s 3 (.mv (t 19))]) (.seq (.region false [s 20 (.mv (t 0)), s 21 (.bin .quo (t 20) (.const (.int .i64 10))), s 0 (.mv (t 21))]) (.seq (.region false [s 22 (.mv (t 0)), s 23 (.bin .eql (t 22) (.const (.int .i64 0)))]) (.cond (t 23) (.seq (.region false [s 24 (.mv (t 3)), s 2 (.mv (t 24))]) .ret) .skip)))))))))))
def sFormatInt.keep : List Nat := [0, 2, 3]
def sFormatInt.res : List RRes := [.tmp 2]
theorem sFormatInt.ofS {mo : Bool} {args : List AV} {r : AV} (hr : isScalR r = true) (hn : Nat.ble args.length Try.f88.ntmps = true) (h : aCode (Kn mo Try.prog) sFormatInt.keep 0 sFormatInt.code (doneS sFormatInt.res r) ⟨argEnv 0 args, [], []⟩) : Abs.Ret mo Try.prog 88 args r [] :=
  Abs.Ret.of_irS hr Try.func88 rfl (by kernel_rfl) (Nat.le_of_ble_eq_true hn) (by kernel_rfl) (by kernel_rfl) h
abbrev sFormatInt.Ret (args : List AV) (r : AV) (frs : Fr) : Prop := Abs.Ret true Try.prog 88 args r frs
def sParseInt.code : ACode := (.seq (.region false [s 2 (.mv (.const (.int .i64 0))), s 3 (.mv (.const (.bool false)))]) (.seq (.seq (.region false [s 6 (.mv (t 0)), s 7 (.len true (t 6)), s 8 (.call 93 [(t 7), (.const (.int .i64 1)), (.const (.int .i64 4))]), s 9 (.not (t 8))]) (.cond (t 9) (.seq (.region false [s 2 (.mv (.const (.int .i64 0))), s 3 (.mv (.const (.bool false)))]) .ret) .skip)) (.seq (.region false [s 4 (.mv (.const (.int .i64 0)))]) (.seq (.seq (.region false [s 5 (.mv (.const (.int .i64 0)))]) (.block 0 (.loop (.seq (.seq (.region false [s 10 (.mv (t 5)), s 11 (.mv (t 0)), s 12 (.len true (t 11)), s 13 (.bin .lss (t 10) (t 12))]) (.cond (t 13) .skip (.exit 0))) (.seq (.block 1 (.seq (.seq (.region false [s 16 (.mv (t 0)), s 17 (.mv (t 5)), s 18 (.index (t 16) (t 17)), s 19 (.bin .lss (t 18) (.const (.int .u8 48))), s 20 (.mv (t 19)), g 20 false 21 (.mv (t 0)), g 20 false 22 (.mv (t 5)), g 20 false 23 (.index (t 21) (t 22)), g 20 false 24 (.bin .gtr (t 23) (.const (.int .u8 57))), s 25 (.or (t 20) (t 24))]) (.cond (t 25) (.seq (.region false [s 2 (.mv (.const (.int .i64 0))), s 3 (.mv (.const (.bool false)))]) .ret) .skip)) (.region false [s 26 (.mv (t 4)), s 27 (.bin .mul (.const (.int .i64 10)) (t 26)), s 28 (.mv (t 0)), s 29 (.mv (t 5)), s 30 (.index (t 28) (t 29)), s 31 (.bin .sub (t 30) (.const (.int .u8 48))), s 32 (.conv .i64 (t 31)), s 33 (.bin .add (t 27) (t 32)), s 4 (.mv (t 33))]))) (.region false [s 14 (.mv (t 5)), s 15 (.bin .add (t 14) (.const (.int .i64 1))), s 5 (.mv (t 15))])))))) (.seq (.seq (.region false [s 34 (.mv (t 4)), s 35 (.call 88 [(t 34)]), s 36 (.mv (t 0)), s 37 (.bin .neq (t 35) (t 36))]) (.cond (t 37) (.seq (.region false [s 2 (.mv (.const (.int .i64 0))), s 3 (.mv (.const (.bool false)))]) .ret) .skip)) (.seq (.region false [s 38 (.mv (t 4)), s 2 (.mv (t 38)), s 3 (.mv (.const (.bool true)))]) .ret))))))
def sParseInt.keep : List Nat := [0, 2, 3, 4, 5]
def sParseInt.res : List RRes := [.tmp 2, .tmp 3]
theorem sParseInt.ofS {mo : Bool} {args : List AV} {r : AV} (hr : isScalR r = true) (hn : Nat.ble args.length Try.f95.ntmps = true) (h : aCode (Kn mo Try.prog) sParseInt.keep 0 sParseInt.code (doneS sParseInt.res r) ⟨argEnv 0 args, [], []⟩) : Abs.Ret mo Try.prog 95 args r [] :=
  Abs.Ret.of_irS hr Try.func95 rfl (by kernel_rfl) (Nat.le_of_ble_eq_true hn) (by kernel_rfl) (by kernel_rfl) h
abbrev sParseInt.Ret (args : List AV) (r : AV) (frs : Fr) : Prop := Abs.Ret true Try.prog 95 args r frs
def pParseInt.code : ACode := (.seq (.region false [s 2 (.mv (.const (.int .i64 0))), s 3 (.mv (.const (.bool false)))]) (.seq (.seq (.region false [s 7 (.mv (t 0)), s 8 (.bin .eql (t 7) (.const (.string (.mk #[])))), s 9 (.mv (t 8)), g 9 false 10 (.mv (t 0)), g 9 false 11 (.len true (t 10)), g 9 false 12 (.bin .gtr (t 11) (.const (.int .i64 1))), g 9 false 13 (.mv (t 12)), g 13 true 14 (.mv (t 0)), g 13 true 15 (.index (t 14) (.const (.int .i64 0))), g 13 true 16 (.bin .eql (t 15) (.const (.int .u8 48))), g 9 false 17 (.and (t 13) (t 16)), s 18 (.or (t 9) (t 17))]) (.cond (t 18) (.seq (.region false [s 2 (.mv (.const (.int .i64 0))), s 3 (.mv (.const (.bool false)))]) .ret) .skip)) (.seq (.region false [s 4 (.mv (.const (.int .i64 0)))]) (.seq (.seq (.region false [s 19 (.mv (t 0)), s 20 (.range (t 19))]) (.block 0 (.loop (.seq (.region false [s 21 (.next (t 20)), s 22 (.extract (t 21) 0)]) (.seq (.cond (t 22) .skip (.exit 0)) (.block 1 (.seq (.region false [s 23 (.extract (t 21) 2), s 6 (.mv (t 23))]) (.seq (.seq (.region false [s 24 (.mv (t 6)), s 25 (.call 98 [(t 24)]), s 26 (.not (t 25))]) (.cond (t 26) (.seq (.region false [s 2 (.mv (.const (.int .i64 0))), s 3 (.mv (.const (.bool false)))]) .ret) .skip)) (.seq (.region false [s 27 (.mv (t 4)), s 28 (.bin .mul (.const (.int .i64 10)) (t 27)), s 29 (.mv (t 6)), s 30 (.bin .sub (t 29) (.const (.int .i32 48))), s 31 (.conv .i64 (t 30)), s 32 (.bin .add (t 28) (t 31)), s 4 (.mv (t 32))]) (.seq (.region false [s 33 (.mv (t 4)), s 34 (.bin .gtr (t 33) (.const (.int .i64 9999)))]) (.cond (t 34) (.seq (.region false [s 2 (.mv (.const (.int .i64 0))), s 3 (.mv (.const (.bool false)))]) .ret) .skip))))))))))) (.seq (.region false [s 35 (.mv (t 4)), s 2 (.mv (t 35)), s 3 (.mv (.const (.bool true)))]) .ret)))))
def pParseInt.keep : List Nat := [0, 2, 3, 4, 6, 20, 21, 22]
def pParseInt.res : List RRes := [.tmp 2, .tmp 3]
theorem pParseInt.ofS {mo : Bool} {args : List AV} {r : AV} (hr : isScalR r = true) (hn : Nat.ble args.length Try.f83.ntmps = true) (h : aCode (Kn mo Try.prog) pParseInt.keep 0 pParseInt.code (doneS pParseInt.res r) ⟨argEnv 0 args, [], []⟩) : Abs.Ret mo Try.prog 83 args r [] :=
  Abs.Ret.of_irS hr Try.func83 rfl (by kernel_rfl) (Nat.le_of_ble_eq_true hn) (by kernel_rfl) (by kernel_rfl) h
abbrev pParseInt.Ret (args : List AV) (r : AV) (frs : Fr) : Prop := Abs.Ret true Try.prog 83 args r frs
def sCompareAtoms.code : ACode := (.seq (.region false [s 4 (.mv (.const (.int .i64 0)))]) (.seq (.region false [s 10 (.mv (t 0)), s 11 (.call 95 [(t 10)]), s 9 (.mv (t 11)), s 12 (.extract (t 9) 0), s 13 (.extract (t 9) 1), s 5 (.mv (t 12)), s 6 (.mv (t 13))]) (.seq (.region false [s 15 (.mv (t 1)), s 16 (.call 95 [(t 15)]), s 14 (.mv (t 16)), s 17 (.extract (t 14) 0), s 18 (.extract (t 14) 1), s 7 (.mv (t 17)), s 8 (.mv (t 18))]) (.seq (.block 0 (.seq (.seq (.region false [s 20 (.mv (t 6)), s 21 (.mv (t 20)), g 21 true 22 (.mv (t 8)), s 23 (.and (t 21) (t 22)), s 24 (.mv (t 23)), g 24 true 25 (.mv (t 5)), g 24 true 26 (.mv (t 7)), g 24 true 27 (.bin .lss (t 25) (t 26)), s 28 (.and (t 24) (t 27)), s 19 (.mv (t 28))]) (.cond (t 19) .skip (.region false [s 29 (.mv (t 6)), s 30 (.mv (t 29)), g 30 true 31 (.mv (t 8)), g 30 true 32 (.not (t 31)), s 33 (.and (t 30) (t 32)), s 19 (.mv (t 33))]))) (.cond (t 19) (.seq (.region false [s 4 (.mv (.const (.int .i64 (-1))))]) .ret) (.seq (.seq (.region false [s 35 (.mv (t 6)), s 36 (.mv (t 35)), g 36 true 37 (.mv (t 8)), s 38 (.and (t 36) (t 37)), s 39 (.mv (t 38)), g 39 true 40 (.mv (t 5)), g 39 true 41 (.mv (t 7)), g 39 true 42 (.bin .gtr (t 40) (t 41)), s 43 (.and (t 39) (t 42)), s 34 (.mv (t 43))]) (.cond (t 34) .skip (.region false [s 44 (.mv (t 8)), s 45 (.mv (t 44)), g 45 true 46 (.mv (t 6)), g 45 true 47 (.not (t 46)), s 48 (.and (t 45) (t 47)), s 34 (.mv (t 48))]))) (.cond (t 34) (.seq (.region false [s 4 (.mv (.const (.int .i64 1)))]) .ret) (.seq (.region false [s 50 (.mv (t 6)), s 49 (.mv (t 50))]) (.cond (t 49) (.seq (.region false [s 4 (.mv (.const (.int .i64 0)))]) .ret) .skip))))))) (.seq (.region false [s 51 (.mv (t 0)), s 52 (.mv (t 1)), s 53 (.call 59 [(t 51), (t 52)]), s 4 (.mv (t 53))]) .ret)))))
def sCompareAtoms.keep : List Nat := [0, 1, 4, 5, 6, 7, 8, 19, 34]
def sCompareAtoms.res : List RRes := [.tmp 4]
theorem sCompareAtoms.of {mo : Bool} {args : List AV} {r : AV} {frs : Fr} (hn : Nat.ble args.length Try.f60.ntmps = true) (h : aCode (Kn mo Try.prog) sCompareAtoms.keep 0 sCompareAtoms.code (doneK sCompareAtoms.res r frs) ⟨argEnv 0 args, [], []⟩) : Abs.Ret mo Try.prog 60 args r frs :=
  Abs.Ret.of_ir Try.func60 rfl (by kernel_rfl) (Nat.le_of_ble_eq_true hn) (by kernel_rfl) (by kernel_rfl) h
abbrev sCompareAtoms.Ret (args : List AV) (r : AV) (frs : Fr) : Prop := Abs.Ret true Try.prog 60 args r frs
def sCmp.code : ACode := (.seq (.region false [s 4 (.mv (.const (.int .i64 0)))]) (.seq (.block 0 (.seq (.region false [s 6 (.mv (t 0)), s 7 (.mv (t 1)), s 8 (.bin .lss (t 6) (t 7)), s 5 (.mv (t 8))]) (.cond (t 5) (.seq (.region false [s 4 (.mv (.const (.int .i64 (-1))))]) .ret) (.seq (.region false [s 10 (.mv (t 0)), s 11 (.mv (t 1)), s 12 (.bin .gtr (t 10) (t 11)), s 9 (.mv (t 12))]) (.cond (t 9) (.seq (.region false [s 4 (.mv (.const (.int .i64 1)))]) .ret) .skip))))) (.seq (.region false [s 4 (.mv (.const (.int .i64 0)))]) .ret)))
def sCmp.keep : List Nat := [0, 1, 4]
def sCmp.res : List RRes := [.tmp 4]
theorem sCmp.of {mo : Bool} {args : List AV} {r : AV} {frs : Fr} (hn : Nat.ble args.length Try.f59.ntmps = true) (h : aCode (Kn mo Try.prog) sCmp.keep 0 sCmp.code (doneK sCmp.res r frs) ⟨argEnv 0 args, [], []⟩) : Abs.Ret mo Try.prog 59 args r frs :=
  Abs.Ret.of_ir Try.func59 rfl (by kernel_rfl) (Nat.le_of_ble_eq_true hn) (by kernel_rfl) (by kernel_rfl) h
abbrev sCmp.Ret (args : List AV) (r : AV) (frs : Fr) : Prop := Abs.Ret true Try.prog 59 args r frs
def slClone.code : ACode := (.seq (.region false [s 2 (.mv (.const (.slice none 0 0)))]) (.seq (.seq (.region false [s 3 (.mv (t 0)), s 4 (.nilq false (t 3))]) (.cond (t 4) (.seq (.region false [s 2 (.mv (.const (.slice none 0 0)))]) .ret) .skip)) (.seq (.region false [s 5 (.bslice 9 1 true []), s 6 (.mv (t 0)), s 7 (.append 9 1 16 (t 5) (t 6)), s 2 (.mv (t 7))]) .ret)))
def slClone.keep : List Nat := [0, 2]
def slClone.res : List RRes := [.tmp 2]
theorem slClone.of {mo : Bool} {args : List AV} {r : AV} {frs : Fr} (hn : Nat.ble args.length Try.f75.ntmps = true) (h : aCode (Kn mo Try.prog) slClone.keep 0 slClone.code (doneK slClone.res r frs) ⟨argEnv 0 args, [], []⟩) : Abs.Ret mo Try.prog 75 args r frs :=
  Abs.Ret.of_ir Try.func75 rfl (by kernel_rfl) (Nat.le_of_ble_eq_true hn) (by kernel_rfl) (by kernel_rfl) h
abbrev slClone.Ret (args : List AV) (r : AV) (frs : Fr) : Prop := Abs.Ret true Try.prog 75 args r frs
def sTexts.code : ACode := (.seq (.region false [s 2 (.mv (.const (.slice none 0 0)))]) (.seq (.region false [s 3 (.bslice 9 1 true []), s 4 (.mv (t 0)), s 5 (.append 9 1 16 (t 3) (t 4)), s 2 (.mv (t 5))]) .ret))
def sTexts.keep : List Nat := [0, 2]
def sTexts.res : List RRes := [.tmp 2]
theorem sTexts.of {mo : Bool} {args : List AV} {r : AV} {frs : Fr} (hn : Nat.ble args.length Try.f105.ntmps = true) (h : aCode (Kn mo Try.prog) sTexts.keep 0 sTexts.code (doneK sTexts.res r frs) ⟨argEnv 0 args, [], []⟩) : Abs.Ret mo Try.prog 105 args r frs :=
  Abs.Ret.of_ir Try.func105 rfl (by kernel_rfl) (Nat.le_of_ble_eq_true hn) (by kernel_rfl) (by kernel_rfl) h
abbrev sTexts.Ret (args : List AV) (r : AV) (frs : Fr) : Prop := Abs.Ret true Try.prog 105 args r frs
def slEqual.code : ACode := (.seq (.region false [s 4 (.mv (.const (.bool false)))]) (.seq (.seq (.region false [s 6 (.mv (t 0)), s 7 (.len false (t 6)), s 8 (.mv (t 1)), s 9 (.len false (t 8)), s 10 (.bin .neq (t 7) (t 9))]) (.cond (t 10) (.seq (.region false [s 4 (.mv (.const (.bool false)))]) .ret) .skip)) (.seq (.seq (.region false [s 11 (.mv (t 0)), s 12 (.len false (t 11)), s 13 (.mv (.const (.int .i64 0)))]) (.block 0 (.loop (.seq (.region false [s 14 (.bin .lss (t 13) (t 12))]) (.seq (.cond (t 14) .skip (.exit 0)) (.seq (.block 1 (.seq (.region false [s 15 (.mv (t 13)), s 5 (.mv (t 15))]) (.seq (.region true [s 16 (.mv (t 0)), s 17 (.mv (t 5)), s 18 (.iadr 1 (t 16) (t 17)), s 19 (.load false 1 (t 18)), s 20 (.mv (t 1)), s 21 (.mv (t 5)), s 22 (.iadr 1 (t 20) (t 21)), s 23 (.load false 1 (t 22)), s 24 (.bin .neq (t 19) (t 23))]) (.cond (t 24) (.seq (.region false [s 4 (.mv (.const (.bool false)))]) .ret) .skip)))) (.region false [s 25 (.bin .add (t 13) (.const (.int .i64 1))), s 13 (.mv (t 25))]))))))) (.seq (.region false [s 4 (.mv (.const (.bool true)))]) .ret))))
def slEqual.keep : List Nat := [0, 1, 4, 5, 12, 13, 14]
def slEqual.res : List RRes := [.tmp 4]
theorem slEqual.of {mo : Bool} {args : List AV} {r : AV} {frs : Fr} (hn : Nat.ble args.length Try.f79.ntmps = true) (h : aCode (Kn mo Try.prog) slEqual.keep 0 slEqual.code (doneK slEqual.res r frs) ⟨argEnv 0 args, [], []⟩) : Abs.Ret mo Try.prog 79 args r frs :=
  Abs.Ret.of_ir Try.func79 rfl (by kernel_rfl) (Nat.le_of_ble_eq_true hn) (by kernel_rfl) (by kernel_rfl) h
abbrev slEqual.Ret (args : List AV) (r : AV) (frs : Fr) : Prop := Abs.Ret true Try.prog 79 args r frs
end Go.Proofs.Ytkbblglbbfdnpaa
namespace Go.Proofs.Ytkbblglbbfdnpaa
open Abs
theorem l1In.ret (x a b : Int) : l1In.Ret [.val (.int .i64 x), .val (.int .i64 a), .val (.int .i64 b)] (.val (.bool (decide (a ≤ x) && decide (x ≤ b)))) [] := by
  refine l1In.of rfl ?_
  repeat' first
    | (conv => whnf
       first | refine Need.mk (fun h => h) ?_ | refine Need.mk rfl ?_ | refine LitO.own rfl ?_ | refine FinVal.keep ?_ | refine Final.mk rfl rfl)
def letter (c : Int) : Bool := decide (97 ≤ c) && decide (c ≤ 122)
def digit (c : Int) : Bool := decide (48 ≤ c) && decide (c ≤ 57)
theorem isLetter.ret (x : Int) : isLetter.Ret [.val (.int .i32 x)] (.val (.bool (letter x))) [] := by
  refine isLetter.of rfl ?_; unfold letter
  repeat' first
    | (conv => whnf
       first | refine Need.mk (fun h => h) ?_ | refine Need.mk rfl ?_ | refine LitO.own rfl ?_ | refine FinVal.keep ?_ | refine Final.mk rfl rfl)
theorem isDigit.ret (x : Int) : isDigit.Ret [.val (.int .i32 x)] (.val (.bool (digit x))) [] := by
  refine isDigit.of rfl ?_; unfold digit
  repeat' first
    | (conv => whnf
       first | refine Need.mk (fun h => h) ?_ | refine Need.mk rfl ?_ | refine LitO.own rfl ?_ | refine FinVal.keep ?_ | refine Final.mk rfl rfl)
def alnum (c : UInt8) : Bool := letter c.toNat || digit c.toNat
def atomF (s : Str) : Bool := s.all alnum && (decide (1 ≤ (s.length : Int)) && decide ((s.length : Int) ≤ 8))
theorem wrap64_byte (c : UInt8) : IntKind.i64.wrap (c.toNat : Int) = c.toNat := wrap64 (by omega) (by have := c.toNat_lt; omega)
theorem wrap32_byte (c : UInt8) : IntKind.i32.wrap (c.toNat : Int) = c.toNat := by have h := c.toNat_lt; exact Go.IntWalk.i32_in _ ⟨by omega, by omega⟩
theorem atomF_no {x : Str} {i : Nat} (hi : i < x.length) (h : alnum (x.getD i 0) = false) : atomF x = false := by
  have : x.all alnum = false := by
    rw [List.all_eq_false]
    refine ⟨x.getD i 0, ?_, by rw [h]; simp⟩
    simp [List.getD, hi]
  simp [atomF, this]
theorem all_succ {x : Str} {i : Nat} (hi : i < x.length) (h : (x.take i).all alnum = true) (hc : alnum (x.getD i 0) = true) : (x.take (i + 1)).all alnum = true := by
  rw [take_succ' 0 hi, List.all_append, h]; simpa using hc
theorem all_end {x : Str} {i : Nat} (hi : x.length ≤ i) (h : (x.take i).all alnum = true) : x.all alnum = true := by
  rwa [List.take_of_length_le hi] at h
theorem nor {p q : Bool} (h : (!p && !q) = true) : (p || q) = false := by cases p <;> cases q <;> simp_all
theorem nor' {p q : Bool} (h : (!p && !q) = false) : (p || q) = true := by cases p <;> cases q <;> simp_all
theorem dec_cases (x : Str) (i : Nat) (hi : i < x.length) :
    ((x.getD i 0).toNat < 128 ∧ decodeS x i = ((x.getD i 0).toNat, 1)) ∨ (128 ≤ (x.getD i 0).toNat ∧ 128 ≤ (decodeS x i).1) := by
  have hs : i < (⟨x.toArray⟩ : ByteArray).size := hi
  have he : (⟨x.toArray⟩ : ByteArray)[i]'hs = x.getD i 0 := by
    have : (⟨x.toArray⟩ : ByteArray)[i]'hs = x[i] := rfl
    rw [this]; simp [List.getD, hi]
  rcases Nat.lt_or_ge (x.getD i 0).toNat 128 with h | h
  · exact .inl ⟨h, by unfold decodeS; rw [decode_ascii _ _ hs (by rw [he]; exact h), he]⟩
  · exact .inr ⟨h, (decode_high _ _ hs (by rw [he]; exact h)).1⟩
theorem sIsAtom.ret (x : Str) (hx : x.length ≤ 1048576) : sIsAtom.Ret [.str x] (.val (.bool (atomF x))) [] := by
  refine sIsAtom.of rfl ?_
  skip
  refine ALoop.mk Nat (fun i => ⟨[(0, .str x), (3, .val (.int .i64 i))], [], []⟩) (fun i => i ≤ x.length ∧ (x.take i).all alnum = true) (fun i => x.length - i) ⟨0, ⟨Nat.zero_le _, rfl⟩, ?_⟩ (fun i hi => ?_)
  · repeat' first
      | exact trivial | refine Weak.mk ?_ ?_ ?_ ?_ (Or.inl (Nat.le_of_ble_eq_true rfl)) | refine And.intro ?_ ?_ | with_reducible rfl | exact Nat.le_of_ble_eq_true rfl | refine AV.int_congr ?_ | refine AV.str_congr ?_ | (apply rfl)
  repeat' first
    | (conv => whnf
       first | refine Need.mk (fun h => h) ?_ | refine Need.mk rfl ?_ | refine Need.fin ?_ | refine Fork.dec (fun _ => ?_) (fun _ => ?_) | refine Fork.mk (fun _ => ?_) (fun _ => ?_) | refine Round.mk ?_ | refine LitO.own rfl ?_ | refine FinVal.keep ?_ | refine Final.mk ?_ rfl | refine ACall.scalA _ _ (l1In.ret _ _ _) rfl ?_ | refine AGCall.mkA _ _ (fun hg => l1In.ret _ _ _) rfl ?_)
    | refine AV.bool_congr ?_
  · rename_i h0 h1
    rw [atomF_no (i := i) (by omega) (by simp only [wrap64_byte, Int.toNat_natCast] at h1; exact nor h1)]
  · rename_i h0 h1
    refine ⟨i + 1, ⟨by omega, all_succ (by omega) hi.2 ?_⟩, ?_, by omega⟩
    · simp only [wrap64_byte, Int.toNat_natCast] at h1; exact nor' h1
    · repeat' first
        | exact trivial | refine Weak.mk ?_ ?_ ?_ ?_ (Or.inl (Nat.le_of_ble_eq_true rfl)) | refine And.intro ?_ ?_ | with_reducible rfl | exact Nat.le_of_ble_eq_true rfl | refine AV.int_congr ?_ | refine AV.str_congr ?_ | (apply rfl)
      rw [wrap64 (by omega) (by omega)]; rfl
  · simp [atomF, all_end (by omega) hi.2]
theorem pIsAtom.ret (x : Str) (hx : x.length ≤ 1048576) : pIsAtom.Ret [.str x] (.val (.bool (atomF x))) [] := by
  refine pIsAtom.of rfl ?_
  repeat' first
    | (conv => whnf
       first | refine Need.mk (fun h => h) ?_ | refine Need.mk rfl ?_ | refine Fork.mk (fun _ => ?_) (fun _ => ?_) | refine LitO.own rfl ?_ | refine FinVal.keep ?_ | refine Final.mk ?_ rfl)
    | refine AV.bool_congr ?_
  all_goals try refine ALoop.mk Nat (fun i => ⟨[(0, .str x), (13, .bptr 0 0)], [.iter x i], []⟩) (fun i => i ≤ x.length ∧ (x.take i).all alnum = true) (fun i => x.length - i) ⟨0, ⟨Nat.zero_le _, rfl⟩, ?_⟩ (fun i hi => ?_)
  rotate_left
  · repeat' first
      | exact trivial | refine Weak.mk ?_ ?_ ?_ ?_ (Or.inl (Nat.le_of_ble_eq_true rfl)) | refine And.intro ?_ ?_ | with_reducible rfl | exact Nat.le_of_ble_eq_true rfl | refine AV.str_congr ?_ | (apply rfl)
  repeat' first
    | contradiction
    | (conv => whnf
       first | refine Need.mk (fun h => h) ?_ | refine Fork.dec (fun _ => ?_) (fun _ => ?_) | refine Fork.mk (fun _ => ?_) (fun _ => ?_) | refine Round.mk ?_ | refine FinVal.keep ?_ | refine Final.mk ?_ rfl | refine ACall.scalA _ _ (isLetter.ret _) rfl ?_ | refine AGCall.mkA _ _ (fun hg => isDigit.ret _) rfl ?_)
    | refine AV.bool_congr ?_
  · rename_i h0 _ h1
    refine (atomF_no h0 ?_).symm
    rcases dec_cases x i h0 with ⟨_, h⟩ | ⟨h, _⟩
    · rw [h] at h1; exact nor h1
    · rw [List.getD_eq_getElem?_getD] at h; simp [alnum, letter, digit]; omega
  · rename_i h0 _ h1
    rcases dec_cases x i h0 with ⟨_, h⟩ | ⟨_, h⟩
    · rw [h] at h1
      refine ⟨i + 1, ⟨h0, all_succ h0 hi.2 (nor' h1)⟩, ?_, by omega⟩
      repeat' first
        | exact trivial | refine Weak.mk ?_ ?_ ?_ ?_ (Or.inl (Nat.le_of_ble_eq_true rfl)) | refine And.intro ?_ ?_ | with_reducible rfl | exact Nat.le_of_ble_eq_true rfl | refine AV.str_congr ?_ | (apply rfl)
      simp [h]
    · exfalso
      revert h1; simp [letter, digit]; omega
  · rename_i h1 h2 _
    simp only [Bool.or_eq_false_iff, decide_eq_false_iff_not] at h1
    have h3 : x ≠ [] := by simpa using h1.1
    have h4 : 0 < x.length := List.length_pos_iff.2 h3
    have h5 : (1 : Int) ≤ x.length := by omega
    have h6 : (x.length : Int) ≤ 8 := by omega
    simp [atomF, all_end (by omega) hi.2, h5, h6]
  · rename_i h1
    rcases Bool.or_eq_true_iff.1 h1 with h | h
    · have h3 : x = [] := by simpa using h
      subst h3; rfl
    · have : ¬ ((x.length : Int) ≤ 8) := by have := of_decide_eq_true h; omega
      simp [atomF, this]
end Go.Proofs.Ytkbblglbbfdnpaa
namespace Go.Proofs.Ytkbblglbbfdnpaa
open Abs
def fmt (n : Nat) : Str := if h : n < 10 then [UInt8.ofNat (48 + n)] else fmt (n / 10) ++ [UInt8.ofNat (48 + n % 10)]
termination_by n
decreasing_by omega
def dval (n : Nat) (c : UInt8) : Nat := 10 * n + (c.toNat - 48)
def valA (a : Nat) (s : Str) : Nat := s.foldl dval a
def dig (c : UInt8) : Bool := digit c.toNat
theorem dig_range {c : UInt8} (h : dig c = true) : 48 ≤ c.toNat ∧ c.toNat ≤ 57 := by
  simp [dig, digit] at h; omega
theorem fmt_small {n : Nat} (h : n < 10) : fmt n = [UInt8.ofNat (48 + n)] := by rw [fmt, dif_pos h]
theorem fmt_big {n : Nat} (h : 10 ≤ n) : fmt n = fmt (n / 10) ++ [UInt8.ofNat (48 + n % 10)] := by rw [fmt, dif_neg (by omega)]
theorem ofNat_dig {c : UInt8} (h : dig c = true) : UInt8.ofNat (48 + (c.toNat - 48)) = c := by
  have := dig_range h
  have e : 48 + (c.toNat - 48) = c.toNat := by omega
  rw [e]; exact UInt8.ofNat_toNat
theorem valA_lt {s : Str} (h : s.all dig = true) (a : Nat) : valA a s < (a + 1) * 10 ^ s.length := by
  induction s generalizing a with
  | nil => simp [valA]
  | cons c s ih =>
    simp only [List.all_cons, Bool.and_eq_true] at h
    have h1 := ih h.2 (dval a c)
    have h2 := dig_range h.1
    have h3 : (dval a c + 1) ≤ (a + 1) * 10 := by unfold dval; omega
    have h4 := Nat.mul_le_mul_right (10 ^ s.length) h3
    have h5 : (a + 1) * 10 * 10 ^ s.length = (a + 1) * 10 ^ (c :: s).length := by rw [List.length_cons, Nat.pow_succ, Nat.mul_assoc, Nat.mul_comm 10]
    show valA (dval a c) s < _
    omega
theorem valA_ge (s : Str) (a : Nat) : a * 10 ^ s.length ≤ valA a s := by
  induction s generalizing a with
  | nil => simp [valA]
  | cons c s ih =>
    have h1 := ih (dval a c)
    have h3 : a * 10 ≤ dval a c := by unfold dval; omega
    have h4 := Nat.mul_le_mul_right (10 ^ s.length) h3
    have h5 : a * 10 * 10 ^ s.length = a * 10 ^ (c :: s).length := by rw [List.length_cons, Nat.pow_succ, Nat.mul_assoc, Nat.mul_comm 10]
    show _ ≤ valA (dval a c) s
    omega
theorem fmt_valA {s : Str} (h : s.all dig = true) (a : Nat) (ha : 0 < a) : fmt (valA a s) = fmt a ++ s := by
  induction s generalizing a with
  | nil => simp [valA]
  | cons c s ih =>
    simp only [List.all_cons, Bool.and_eq_true] at h
    have h2 := dig_range h.1
    show fmt (valA (dval a c) s) = _
    rw [ih h.2 (dval a c) (by unfold dval; omega)]
    have h3 : dval a c / 10 = a := by unfold dval; omega
    have h4 : dval a c % 10 = c.toNat - 48 := by unfold dval; omega
    rw [fmt_big (n := dval a c) (by unfold dval; omega), h3, h4, ofNat_dig h.1]
    simp
theorem fmt_head (n : Nat) (h : 0 < n) : ∃ c r, fmt n = c :: r ∧ c ≠ 48 := by
  induction n using Nat.strongRecOn with
  | _ n ih =>
    rcases Nat.lt_or_ge n 10 with h1 | h1
    · refine ⟨_, [], fmt_small h1, fun e => ?_⟩
      have := congrArg UInt8.toNat e
      simp at this
      omega
    · obtain ⟨c, r, e, hc⟩ := ih (n / 10) (by omega) (by omega)
      exact ⟨c, r ++ [_], by rw [fmt_big h1, e]; rfl, hc⟩
/-- a text that is a number, as it is written -/
def isNum (s : Str) : Bool := match s with
  | [] => false
  | [c] => dig c
  | c :: d :: s => (c :: d :: s).all dig && c != 48
theorem fmt_of_isNum {s : Str} (h : isNum s = true) : fmt (valA 0 s) = s := by
  match s, h with
  | [c], h =>
    have h2 := dig_range h
    have e : valA 0 [c] = c.toNat - 48 := by simp [valA, dval]
    rw [e, fmt_small (by omega), ofNat_dig h]
  | c :: d :: s, h =>
    simp only [isNum, Bool.and_eq_true, bne_iff_ne, ne_eq] at h
    have hc : dig c = true := by have := h.1; simp only [List.all_cons, Bool.and_eq_true] at this; exact this.1
    have hs : (d :: s).all dig = true := by have := h.1; rw [List.all_cons, Bool.and_eq_true] at this; exact this.2
    have h2 := dig_range hc
    have h3 : c.toNat ≠ 48 := fun e => h.2 (by rw [← UInt8.ofNat_toNat (x := c), e]; rfl)
    show fmt (valA (dval 0 c) (d :: s)) = _
    have e : dval 0 c = c.toNat - 48 := by simp [dval]
    rw [e, fmt_valA hs _ (by omega), fmt_small (by omega), ofNat_dig hc]
    rfl
theorem isNum_of_fmt {s : Str} (hd : s.all dig = true) (h : fmt (valA 0 s) = s) : isNum s = true := by
  match s, hd, h with
  | [], _, h =>
    exfalso
    have : fmt (valA 0 []) = [48] := by simp [valA, fmt_small]
    rw [this] at h; cases h
  | [c], hd, _ => simpa [isNum] using hd
  | c :: d :: s, hd, h =>
    simp only [isNum, hd, Bool.true_and, bne_iff_ne, ne_eq]
    intro hc
    subst hc
    rcases Nat.eq_zero_or_pos (valA 0 (48 :: d :: s)) with h0 | h0
    · rw [h0] at h
      have : fmt 0 = [48] := by simp [fmt_small]
      rw [this] at h; cases h
    · obtain ⟨c, r, e, hc⟩ := fmt_head _ h0
      rw [h] at e; cases e; exact hc rfl
theorem isNum_digits {s : Str} (h : isNum s = true) : s.all dig = true := by
  match s, h with
  | [c], h => simpa [isNum] using h
  | c :: d :: s, h => simp only [isNum, Bool.and_eq_true] at h; exact h.1
theorem isNum_len {s : Str} (h : isNum s = true) (hv : valA 0 s ≤ 9999) : s.length ≤ 4 := by
  match s, h with
  | [c], _ => simp
  | c :: d :: s, h =>
    have hd := isNum_digits h
    simp only [isNum, Bool.and_eq_true, bne_iff_ne, ne_eq] at h
    have hc : dig c = true := by have := h.1; simp only [List.all_cons, Bool.and_eq_true] at this; exact this.1
    have h2 := dig_range hc
    have h3 : c.toNat ≠ 48 := fun e => h.2 (by rw [← UInt8.ofNat_toNat (x := c), e]; rfl)
    have h4 : valA (dval 0 c) (d :: s) ≤ 9999 := hv
    have h5 := valA_ge (d :: s) (dval 0 c)
    rcases Nat.lt_or_ge 4 (c :: d :: s).length with h6 | h6
    · exfalso
      have h7 : 10 ^ 4 ≤ 10 ^ (d :: s).length := Nat.pow_le_pow_right (by omega) (by simp at h6 ⊢; omega)
      have h8 : 1 ≤ dval 0 c := by unfold dval; omega
      have h9 := Nat.mul_le_mul h8 h7
      omega
    · exact h6
def numF (s : Str) : Bool := isNum s && decide (s.length ≤ 4)
def parseF (s : Str) : Int × Bool := if numF s then (valA 0 s, true) else (0, false)
theorem valA_lt4 {s : Str} (h : s.all dig = true) (hl : s.length ≤ 4) : valA 0 s ≤ 9999 := by
  have h1 := valA_lt h 0
  have h2 : 10 ^ s.length ≤ 10 ^ 4 := Nat.pow_le_pow_right (by omega) hl
  omega
theorem fmt_len4 {n : Nat} (h : n ≤ 9999) : (fmt n).length ≤ 4 := by
  rcases Nat.lt_or_ge n 10 with h1 | h1
  · rw [fmt_small h1]; simp
  rw [fmt_big h1]
  rcases Nat.lt_or_ge (n / 10) 10 with h2 | h2
  · rw [fmt_small h2]; simp
  rw [fmt_big h2]
  rcases Nat.lt_or_ge (n / 10 / 10) 10 with h3 | h3
  · rw [fmt_small h3]; simp
  rw [fmt_big h3]
  rw [fmt_small (n := n / 10 / 10 / 10) (by omega)]; simp
theorem valA_snoc (s : Str) (c : UInt8) : valA 0 (s ++ [c]) = 10 * valA 0 s + (c.toNat - 48) := by
  unfold valA; rw [List.foldl_append]; rfl
end Go.Proofs.Ytkbblglbbfdnpaa
namespace Go.Proofs.Ytkbblglbbfdnpaa
open Abs
theorem sFormatInt.ret (n : Nat) (h : n ≤ 9999) : sFormatInt.Ret [.val (.int .i64 n)] (.str (fmt n)) [] := by
  refine sFormatInt.ofS rfl rfl ?_
  repeat' first
    | (conv => whnf
       first | refine Need.mk rfl ?_ | refine Fork.decNo (by omega) ?_ | refine LitO.own rfl ?_)
  refine ALoop.mk (Nat × Str × Fr) (fun a => ⟨[(0, .val (.int .i64 a.1)), (3, .str a.2.1)], [], a.2.2⟩) (fun a => fmt a.1 ++ a.2.1 = fmt n ∧ a.1 ≤ 9999) (fun a => a.1) ⟨(n, [], []), ⟨by simp, h⟩, ?_⟩ (fun a ha => ?_)
  · repeat' first
      | exact trivial | refine Weak.mk ?_ ?_ ?_ ?_ (Or.inl (Nat.le_of_ble_eq_true rfl)) | refine And.intro ?_ ?_ | with_reducible rfl | exact Nat.le_of_ble_eq_true rfl | refine AV.int_congr ?_ | refine AV.str_congr ?_ | (apply rfl)
  repeat' first
    | (conv => whnf
       first | refine Need.mk rfl ?_ | refine Need.fin ?_ | refine LitO.own rfl ?_)
  conv => whnf
  have hd : (↑a.1 : Int).tmod 10 = (a.1 % 10 : Nat) := by rw [Int.tmod_eq_emod_of_nonneg (by omega)]; omega
  have hq : IntKind.i64.wrap ((↑a.1 : Int).tdiv 10) = (a.1 / 10 : Nat) := by rw [Int.tdiv_eq_ediv_of_nonneg (by omega), wrap64 (by omega) (by omega)]; omega
  have hl : a.2.1.length ≤ 4 := by
    have h1 := congrArg List.length ha.1
    have h2 := fmt_len4 h
    rw [List.length_append] at h1
    omega
  refine Bytes.mk [UInt8.ofNat (48 + a.1 % 10)] ?_ ?_
  · rw [hd, wrap64 (by omega) (by omega)]
    simp only [List.map_cons, List.map_nil, byteCell]
    rw [Go.IntWalk.u8_in _ ⟨by omega, by omega⟩]
    congr 4
    simp
    omega
  repeat' first
    | (conv => whnf
       first | refine Need.mk rfl ?_ | refine Need.fin ?_ | refine Need.mk ?_ ?_ | refine Fork.dec (fun _ => ?_) (fun _ => ?_) | refine Round.mk ?_ | refine LitO.own rfl ?_ | refine Final.mk ?_ rfl)
    | refine AV.str_congr ?_
  · simp only [List.length_cons, List.length_nil]; omega
  · rename_i h1
    rw [hq] at h1
    rw [← ha.1, fmt_small (by omega)]
    have : a.1 % 10 = a.1 := by omega
    rw [this]
  · rename_i h1
    rw [hq] at h1
    refine ⟨(a.1 / 10, [UInt8.ofNat (48 + a.1 % 10)] ++ a.2.1, a.2.2 ++ [(5, 1, 1)]), ⟨?_, by show a.1 / 10 ≤ 9999; omega⟩, ?_, by show a.1 / 10 < a.1; omega⟩
    · rw [← ha.1, fmt_big (n := a.1) (by omega), List.append_assoc]
    · repeat' first
        | exact trivial | refine Weak.mk ?_ ?_ ?_ ?_ (Or.inl (Nat.le_of_ble_eq_true rfl)) | refine And.intro ?_ ?_ | with_reducible rfl | exact Nat.le_of_ble_eq_true rfl | refine AV.int_congr ?_ | refine AV.str_congr ?_ | (apply rfl)
      exact hq
theorem parseF_no {x : Str} (h : numF x = false) : parseF x = (0, false) := by
  unfold parseF; rw [if_neg (by simp [h])]
theorem parseF_yes {x : Str} (h : numF x = true) : parseF x = (↑(valA 0 x), true) := by
  unfold parseF; rw [if_pos h]
theorem digs_no {x : Str} {i : Nat} (hi : i < x.length) (h : dig (x.getD i 0) = false) : numF x = false := by
  cases hn : numF x with
  | false => rfl
  | true =>
    exfalso
    simp only [numF, Bool.and_eq_true] at hn
    have := List.all_eq_true.1 (isNum_digits hn.1) (x.getD i 0) (by simp [List.getD, hi])
    rw [h] at this; cases this
theorem digs_succ {x : Str} {i : Nat} (hi : i < x.length) (h : (x.take i).all dig = true) (hc : dig (x.getD i 0) = true) : (x.take (i + 1)).all dig = true := by
  rw [take_succ' 0 hi, List.all_append, h]; simpa using hc
theorem val_succ {x : Str} {i : Nat} (hi : i < x.length) : valA 0 (x.take (i + 1)) = 10 * valA 0 (x.take i) + ((x.getD i 0).toNat - 48) := by
  rw [take_succ' 0 hi, valA_snoc]
theorem wrap_val {v : Nat} {c : UInt8} (hv : v ≤ 9999) (hc : dig c = true) : IntKind.i64.wrap (IntKind.i64.wrap (10 * (v : Int)) + IntKind.i64.wrap (IntKind.u8.wrap ((c.toNat : Int) - 48))) = ((10 * v + (c.toNat - 48) : Nat) : Int) := by
  have h := dig_range hc
  rw [Go.IntWalk.u8_in _ ⟨by omega, by omega⟩, wrap64 (x := 10 * (v : Int)) (by omega) (by omega), wrap64 (x := (c.toNat : Int) - 48) (by omega) (by omega), wrap64 (by omega) (by omega)]
  omega
theorem valA_le4 {x : Str} {i : Nat} (h : (x.take i).all dig = true) (hx : x.length ≤ 4) : valA 0 (x.take i) ≤ 9999 :=
  valA_lt4 h (by rw [List.length_take]; omega)
theorem sParseInt.ret (x : Str) (hx : x.length ≤ 1048576) : sParseInt.Ret [.str x] (.tup [.val (.int .i64 (parseF x).1), .val (.bool (parseF x).2)]) [] := by
  refine sParseInt.ofS rfl rfl ?_
  repeat' first
    | (conv => whnf
       first | refine Fork.neg (fun _ => ?_) (fun _ => ?_) | refine FinVal.keep ?_ | refine Final.mk ?_ rfl | refine ACall.scalA _ _ (l1In.ret _ _ _) rfl ?_)
  · rename_i h
    have : numF x = false := by
      simp only [numF, Bool.and_eq_false_iff, decide_eq_false_iff_not] at h ⊢
      rcases h with h | h
      · left
        have : x.length = 0 := by omega
        rw [List.eq_nil_of_length_eq_zero this]; rfl
      · right; omega
    rw [parseF_no this]
  rename_i h
  simp only [Bool.and_eq_true, decide_eq_true_eq] at h
  have hl : x.length ≤ 4 := by omega
  clear h
  skip
  refine ALoop.mk Nat (fun i => ⟨[(0, .str x), (4, .val (.int .i64 (valA 0 (x.take i)))), (5, .val (.int .i64 i))], [], []⟩) (fun i => i ≤ x.length ∧ (x.take i).all dig = true) (fun i => x.length - i) ⟨0, ⟨Nat.zero_le _, rfl⟩, ?_⟩ (fun i hi => ?_)
  · repeat' first
      | exact trivial | refine Weak.mk ?_ ?_ ?_ ?_ (Or.inl (Nat.le_of_ble_eq_true rfl)) | refine And.intro ?_ ?_ | with_reducible rfl | exact Nat.le_of_ble_eq_true rfl | refine AV.int_congr ?_ | refine AV.str_congr ?_ | (apply rfl)
  repeat' first
    | (conv => whnf
       first | refine Need.mk (fun h => h) ?_ | refine Need.mk rfl ?_ | refine Need.fin ?_ | refine Fork.dec (fun _ => ?_) (fun _ => ?_) | refine Fork.sne (fun _ => ?_) (fun _ => ?_) | refine Fork.mk (fun _ => ?_) (fun _ => ?_) | refine Round.mk ?_ | refine LitO.own rfl ?_ | refine FinVal.keep ?_ | refine Final.mk ?_ rfl | refine ACall.scalA _ _ (sFormatInt.ret _ ?_) rfl ?_)
  · rename_i h0 h
    have hn : numF x = false := digs_no (i := i) (by omega) (by
      simp only [Int.toNat_natCast] at h
      simp only [Bool.or_eq_true, decide_eq_true_eq] at h
      simp only [dig, digit, Bool.and_eq_false_iff, decide_eq_false_iff_not]; omega)
    rw [parseF_no hn]
  · rename_i h0 h
    have hc : dig (x.getD i 0) = true := by
      simp only [Int.toNat_natCast] at h
      simp only [Bool.or_eq_false_iff, decide_eq_false_iff_not] at h
      simp only [dig, digit, Bool.and_eq_true, decide_eq_true_eq]; omega
    have h1 := valA_le4 hi.2 hl
    have h2 := wrap_val h1 hc
    refine ⟨i + 1, ⟨by omega, digs_succ (by omega) hi.2 hc⟩, ?_, by omega⟩
    repeat' first
      | exact trivial | refine Weak.mk ?_ ?_ ?_ ?_ (Or.inl (Nat.le_of_ble_eq_true rfl)) | refine And.intro ?_ ?_ | with_reducible rfl | exact Nat.le_of_ble_eq_true rfl | refine AV.int_congr ?_ | refine AV.str_congr ?_ | (apply rfl)
    · simp only [Int.toNat_natCast]
      rw [h2, val_succ (by omega)]
    · rw [wrap64 (by omega) (by omega)]; rfl
  · exact valA_le4 hi.2 hl
  · rename_i h0 h
    rw [List.take_of_length_le (by omega)] at h
    have hn : numF x = false := by
      cases hn : numF x with
      | false => rfl
      | true => simp only [numF, Bool.and_eq_true] at hn; exact absurd (fmt_of_isNum hn.1) h
    rw [parseF_no hn]
  · rename_i h0 h
    rw [List.take_of_length_le (by omega)] at h hi ⊢
    have hn : numF x = true := by simp [numF, isNum_of_fmt hi.2 h, hl]
    rw [parseF_yes hn]
theorem wrap_val32 {v : Nat} {c : UInt8} (hv : v ≤ 9999) (hc : dig c = true) : IntKind.i64.wrap (IntKind.i64.wrap (10 * (v : Int)) + IntKind.i64.wrap (IntKind.i32.wrap ((c.toNat : Int) - 48))) = ((10 * v + (c.toNat - 48) : Nat) : Int) := by
  have h := dig_range hc
  rw [Go.IntWalk.i32_in _ ⟨by omega, by omega⟩, wrap64 (x := 10 * (v : Int)) (by omega) (by omega), wrap64 (x := (c.toNat : Int) - 48) (by omega) (by omega), wrap64 (by omega) (by omega)]
  omega
/-- no needless nought in front -/
def plainHead (x : Str) : Bool := !(x == [] || (decide (1 < (x.length : Int)) && ((x.getD 0 0).toNat : Int) == 48))
theorem plainHead_no {x : Str} (h : plainHead x = false) : numF x = false := by
  match x, h with
  | [], _ => rfl
  | [c], h => simp [plainHead] at h
  | c :: d :: x, h =>
    have : c = 48 := by
      have h1 : c.toNat = 48 := by simp [plainHead] at h; omega
      rw [← UInt8.ofNat_toNat (x := c), h1]; rfl
    subst this
    simp [numF, isNum]
theorem isNum_of {x : Str} (h : plainHead x = true) (hd : x.all dig = true) : isNum x = true := by
  match x, h, hd with
  | [c], _, hd => simpa [isNum] using hd
  | c :: d :: x, h, hd =>
    simp only [isNum, hd, Bool.true_and, bne_iff_ne, ne_eq]
    rintro rfl
    simp [plainHead] at h; omega
theorem dec_digit {x : Str} {i : Nat} (hi : i < x.length) (h : digit (decodeS x i).1 = true) : dig (x.getD i 0) = true ∧ decodeS x i = ((x.getD i 0).toNat, 1) := by
  rcases dec_cases x i hi with ⟨_, e⟩ | ⟨_, e⟩
  · rw [e] at h; exact ⟨h, e⟩
  · simp [digit] at h; omega
theorem dec_digit_no {x : Str} {i : Nat} (hi : i < x.length) (h : digit (decodeS x i).1 = false) : dig (x.getD i 0) = false := by
  rcases dec_cases x i hi with ⟨_, e⟩ | ⟨e, _⟩
  · rw [e] at h; exact h
  · simp only [dig, digit, Bool.and_eq_false_iff, decide_eq_false_iff_not]; omega
theorem pParseInt.ret (x : Str) (hx : x.length ≤ 1048576) : pParseInt.Ret [.str x] (.tup [.val (.int .i64 (parseF x).1), .val (.bool (parseF x).2)]) [] := by
  refine pParseInt.ofS rfl rfl ?_
  repeat' first
    | (conv => whnf
       first | refine Need.mk (fun h => h) ?_ | refine Need.mk rfl ?_ | refine Need.fin ?_ | refine Fork.mk (fun _ => ?_) (fun _ => ?_) | refine LitO.own rfl ?_ | refine FinVal.keep ?_ | refine Final.mk ?_ rfl)
  · rename_i h
    have : plainHead x = false := by unfold plainHead; rw [Bool.not_eq_false']; exact h
    rw [parseF_no (plainHead_no this)]
  rename_i h
  have hp : plainHead x = true := by unfold plainHead; rw [Bool.not_eq_true']; exact h
  clear h
  skip
  refine ALoop.mk Nat (fun i => ⟨[(0, .str x), (4, .val (.int .i64 (valA 0 (x.take i)))), (20, .bptr 0 0)], [.iter x i], []⟩) (fun i => i ≤ x.length ∧ (x.take i).all dig = true ∧ valA 0 (x.take i) ≤ 9999) (fun i => x.length - i) ⟨0, ⟨Nat.zero_le _, rfl, by simp [valA]⟩, ?_⟩ (fun i hi => ?_)
  · repeat' first
      | exact trivial | refine Weak.mk ?_ ?_ ?_ ?_ (Or.inl (Nat.le_of_ble_eq_true rfl)) | refine And.intro ?_ ?_ | with_reducible rfl | exact Nat.le_of_ble_eq_true rfl | refine AV.int_congr ?_ | refine AV.str_congr ?_ | (apply rfl)
  repeat' first
    | contradiction
    | (conv => whnf
       first | refine Need.mk rfl ?_ | refine Fork.dec (fun _ => ?_) (fun _ => ?_) | refine Fork.neg (fun _ => ?_) (fun _ => ?_) | refine Fork.mk (fun _ => ?_) (fun _ => ?_) | refine Round.mk ?_ | refine LitO.own rfl ?_ | refine FinVal.keep ?_ | refine Final.mk ?_ rfl | refine ACall.scalA _ _ (isDigit.ret _) rfl ?_)
  · rename_i h0 _ h
    rw [parseF_no (digs_no h0 (dec_digit_no h0 h))]
  · rename_i h0 _ h h9
    obtain ⟨hc, e⟩ := dec_digit h0 h
    rw [e, wrap_val32 hi.2.2 hc, ← val_succ h0] at h9
    have hd := digs_succ h0 hi.2.1 hc
    have hn : numF x = false := by
      cases hn : numF x with
      | false => rfl
      | true =>
        exfalso
        simp only [numF, Bool.and_eq_true, decide_eq_true_eq] at hn
        have := valA_le4 hd hn.2
        omega
    rw [parseF_no hn]
  · rename_i h0 _ h h9
    obtain ⟨hc, e⟩ := dec_digit h0 h
    rw [e, wrap_val32 hi.2.2 hc, ← val_succ h0] at h9
    refine ⟨i + 1, ⟨h0, digs_succ h0 hi.2.1 hc, by omega⟩, ?_, by omega⟩
    repeat' first
      | exact trivial | refine Weak.mk ?_ ?_ ?_ ?_ (Or.inl (Nat.le_of_ble_eq_true rfl)) | refine And.intro ?_ ?_ | with_reducible rfl | exact Nat.le_of_ble_eq_true rfl | refine AV.int_congr ?_ | refine AV.str_congr ?_ | (apply rfl)
    · rw [e, wrap_val32 hi.2.2 hc, ← val_succ h0]
    · simp [e]
  · rename_i h0 _
    rw [List.take_of_length_le (by omega)] at hi ⊢
    have h1 := isNum_of hp hi.2.1
    have hn : numF x = true := by simp [numF, h1, isNum_len h1 hi.2.2]
    rw [parseF_yes hn]
end Go.Proofs.Ytkbblglbbfdnpaa
namespace Go.Proofs.Ytkbblglbbfdnpaa
open Abs
def nameF (x : Str) : Bool := atomF x && letter (x.getD 0 0).toNat
def varF (x : Str) : Bool := decide (1 < (x.length : Int)) && ((x.getD 0 0).toNat : Int) == 63 && atomF (x.drop 1)
theorem atomF_pos {x : Str} (h : atomF x = true) : 1 ≤ x.length := by
  simp only [atomF, Bool.and_eq_true, decide_eq_true_eq] at h; omega
theorem sIsName.ret (x : Str) (hx : x.length ≤ 1048576) : sIsName.Ret [.str x] (.val (.bool (nameF x))) [] := by
  refine sIsName.of rfl ?_
  repeat' first
    | (conv => whnf
       first | refine Need.mk (fun h => h) ?_ | refine Need.mk ?_ ?_ | refine FinVal.keep ?_ | refine Final.mk ?_ rfl | refine ACall.scalA _ _ (sIsAtom.ret _ ?_) rfl ?_ | refine AGCall.mkA _ _ (fun hg => l1In.ret _ _ _) rfl ?_)
    | refine AV.bool_congr ?_
  · exact hx
  · intro h; have := atomF_pos h; omega
  · simp only [nameF, letter, wrap64_byte]; rfl
theorem pIsName.ret (x : Str) (hx : x.length ≤ 1048576) : pIsName.Ret [.str x] (.val (.bool (nameF x))) [] := by
  refine pIsName.of rfl ?_
  repeat' first
    | (conv => whnf
       first | refine Need.mk (fun h => h) ?_ | refine Need.mk ?_ ?_ | refine FinVal.keep ?_ | refine Final.mk ?_ rfl | refine ACall.scalA _ _ (pIsAtom.ret _ ?_) rfl ?_ | refine AGCall.mkA _ _ (fun hg => isLetter.ret _) rfl ?_)
    | refine AV.bool_congr ?_
  · exact hx
  · intro h; have := atomF_pos h; omega
  · simp only [nameF, wrap32_byte]; rfl
end Go.Proofs.Ytkbblglbbfdnpaa
namespace Go.Proofs.Ytkbblglbbfdnpaa
open Abs
theorem and255 (a : BitVec 64) : 0 ≤ IntKind.i64.wrap (((a &&& BitVec.ofInt 64 255).toNat : Nat) : Int) ∧ IntKind.i64.wrap (((a &&& BitVec.ofInt 64 255).toNat : Nat) : Int) < 256 := by
  have h : (a &&& BitVec.ofInt 64 255).toNat ≤ 255 := by
    rw [BitVec.toNat_and]
    exact Nat.and_le_right
  rw [wrap64 (by omega) (by omega)]
  omega
theorem dByte.drw : Drw false Try.prog 106 [] (fun n : Int => 0 ≤ n ∧ n < 256) (fun n => .v (.int .i64 n)) := by
  refine Drw.of fun l i h hi => dByte.ofL rfl rfl ?_
  obtain ⟨h0, h1, h2, h3⟩ := id hi
  repeat' first
    | contradiction | exact trivial
    | (conv => whnf
       first | refine Need.mk (fun h => h) ?_ | refine Need.mk rfl ?_ | refine Need.mk ⟨rfl, Nat.le_of_ble_eq_true rfl⟩ ?_ | refine Need.mk (Nat.le_of_ble_eq_true rfl) ?_ | refine Need.fin ?_ | refine Need.mk ?_ ?_ | refine Ix.strsF rfl ?_ | refine Ix.strs rfl ?_ ?_ | refine Cut.strs rfl ?_ ?_ | refine Ix.mapF (fun _ => rfl) ?_ | refine Ix.map (fun _ => rfl) ?_ ?_ | refine Cut.map (fun _ => rfl) ?_ ?_ | refine Fork.yes (by assumption) ?_ | refine Fork.no (by assumption) ?_ | refine Fork.decYes (by omega) ?_ | refine Fork.decNo (by omega) ?_ | refine Fork.dec (fun _ => ?_) (fun _ => ?_) | refine Fork.bne (fun _ => ?_) (fun _ => ?_) | refine Fork.beq (fun _ => ?_) (fun _ => ?_) | refine Fork.seq (fun _ => ?_) (fun _ => ?_) | refine Fork.sne (fun _ => ?_) (fun _ => ?_) | refine Fork.neg (fun _ => ?_) (fun _ => ?_) | refine Fork.mk (fun _ => ?_) (fun _ => ?_) | refine GFork.fork (.val (.bool false)) (fun hgf => ?_) (fun hgf => ?_) | refine HAlt.mk ?_ ?_ | apply HJoin.mk3 | exact HEnd.mk rfl rfl rfl | refine HEnd.mk ?_ ?_ ?_ | refine Round.mk ?_ | refine NilQ.mk (fun b hb => ?_) | refine forceK_of ?_ | refine forceBx_of ?_ | refine unG_old ?_ | refine unG_gv ?_ | refine Lit.read rfl ?_ | refine LitO.own rfl ?_ | refine FinVal.keep ?_ | refine FinAgg.keep ?_ | refine Final.mk rfl rfl | refine Final.mk ?_ rfl | refine Final.mk ?_ ?_ | refine FinalT.mk ?_ ?_ | refine FinalI.mk ?_ | refine FinalC.cur ?_)
    | refine AV.bool_congr ?_ | refine AV.int_congr ?_ | refine AV.str_congr ?_ | refine AV.list_congr ?_ | with_reducible rfl | refine fr1 ?_ | refine fr2 ?_ ?_
  · refine DrwEnd.at _ ⟨?_, ?_, h2, h3⟩ (and255 _)
    · rw [wrap64 (by omega) (by omega)]; omega
    · rw [wrap64 (by omega) (by omega)]; simp only [length_rows] at *; omega
  · exact DrwEnd.at _ hi (and255 _)
theorem dBelow.drw (n : Int) (hn : n ≤ 9223372036854775807) : Drw false Try.prog 72 [.val (.int .i64 n)] (fun r : Int => 0 ≤ r ∧ (r < n ∨ r = 0)) (fun n => .v (.int .i64 n)) := by
  refine Drw.of fun l i h hi => dBelow.ofL rfl rfl ?_
  repeat' first
    | contradiction | exact trivial
    | (conv => whnf
       first | refine Need.mk (fun h => h) ?_ | refine Need.mk rfl ?_ | refine Need.mk ⟨rfl, Nat.le_of_ble_eq_true rfl⟩ ?_ | refine Need.mk (Nat.le_of_ble_eq_true rfl) ?_ | refine Need.fin ?_ | refine Need.mk ?_ ?_ | refine Ix.strsF rfl ?_ | refine Ix.strs rfl ?_ ?_ | refine Cut.strs rfl ?_ ?_ | refine Ix.mapF (fun _ => rfl) ?_ | refine Ix.map (fun _ => rfl) ?_ ?_ | refine Cut.map (fun _ => rfl) ?_ ?_ | refine Fork.yes (by assumption) ?_ | refine Fork.no (by assumption) ?_ | refine Fork.decYes (by omega) ?_ | refine Fork.decNo (by omega) ?_ | refine Fork.dec (fun _ => ?_) (fun _ => ?_) | refine Fork.bne (fun _ => ?_) (fun _ => ?_) | refine Fork.beq (fun _ => ?_) (fun _ => ?_) | refine Fork.seq (fun _ => ?_) (fun _ => ?_) | refine Fork.sne (fun _ => ?_) (fun _ => ?_) | refine Fork.neg (fun _ => ?_) (fun _ => ?_) | refine Fork.mk (fun _ => ?_) (fun _ => ?_) | refine GFork.fork (.val (.bool false)) (fun hgf => ?_) (fun hgf => ?_) | refine HAlt.mk ?_ ?_ | apply HJoin.mk3 | exact HEnd.mk rfl rfl rfl | refine HEnd.mk ?_ ?_ ?_ | refine Round.mk ?_ | refine NilQ.mk (fun b hb => ?_) | refine forceK_of ?_ | refine forceBx_of ?_ | refine unG_old ?_ | refine unG_gv ?_ | refine Lit.read rfl ?_ | refine LitO.own rfl ?_ | refine FinVal.keep ?_ | refine FinAgg.keep ?_ | refine Final.mk rfl rfl | refine Final.mk ?_ rfl | refine Final.mk ?_ ?_ | refine FinalT.mk ?_ ?_ | refine FinalI.mk ?_ | refine FinalC.cur ?_ | refine ACall.drw (dByte.drw) rfl (by assumption) (by repeat' first | exact SeesL.nil | refine SeesL.cons ?_ ?_ | exact Or.inl ⟨rfl, rfl⟩ | exact Or.inr (Sees0.str _) | exact Or.inr (Sees0.val _) | exact Or.inr (Sees0.olds _ _) | exact Or.inr (Sees0.old _) | exact Or.inr (Sees0.oldagg _) | exact Or.inr (Sees0.list rfl) | exact Or.inr Sees0.nil) rfl (fun a i' h' hi' hq => ?_))
    | refine AV.bool_congr ?_ | refine AV.int_congr ?_ | refine AV.str_congr ?_ | refine AV.list_congr ?_ | with_reducible rfl | refine fr1 ?_ | refine fr2 ?_ ?_
  · exact DrwEnd.at _ (by assumption) ⟨Int.le_refl _, .inr rfl⟩
  · refine DrwEnd.at _ (by assumption) ⟨Int.tmod_nonneg _ hq.1, .inl (Int.tmod_lt_of_pos _ (by omega))⟩
  · rename_i a1 _ _ _ q1 a2 _ _ _ q2
    have e : IntKind.i64.wrap (IntKind.i64.wrap (IntKind.i64.wrap (a1 * 65536) + IntKind.i64.wrap (a2 * 256)) + a) = a1 * 65536 + a2 * 256 + a := by
      rw [wrap64 (x := a1 * 65536) (by omega) (by omega), wrap64 (x := a2 * 256) (by omega) (by omega), wrap64 (x := a1 * 65536 + a2 * 256) (by omega) (by omega), wrap64 (by omega) (by omega)]
    refine DrwEnd.at _ (by assumption) ⟨Int.tmod_nonneg _ ?_, .inl (Int.tmod_lt_of_pos _ (by omega))⟩
    rw [e]; omega
theorem dOnce.drw (n : Int) (hn : n ≤ 9223372036854775807) : Drw false Try.prog 48 [.val (.int .i64 n)] (fun _ : Bool => True) (fun b => .v (.bool b)) := by
  refine Drw.of fun l i h hi => dOnce.ofL rfl rfl ?_
  have hd := dBelow.drw n hn
  repeat' first
    | contradiction | exact trivial
    | (conv => whnf
       first | refine Need.mk (fun h => h) ?_ | refine Need.mk rfl ?_ | refine Need.mk ⟨rfl, Nat.le_of_ble_eq_true rfl⟩ ?_ | refine Need.mk (Nat.le_of_ble_eq_true rfl) ?_ | refine Need.fin ?_ | refine Need.mk ?_ ?_ | refine Ix.strsF rfl ?_ | refine Ix.strs rfl ?_ ?_ | refine Cut.strs rfl ?_ ?_ | refine Ix.mapF (fun _ => rfl) ?_ | refine Ix.map (fun _ => rfl) ?_ ?_ | refine Cut.map (fun _ => rfl) ?_ ?_ | refine Fork.yes (by assumption) ?_ | refine Fork.no (by assumption) ?_ | refine Fork.decYes (by omega) ?_ | refine Fork.decNo (by omega) ?_ | refine Fork.dec (fun _ => ?_) (fun _ => ?_) | refine Fork.bne (fun _ => ?_) (fun _ => ?_) | refine Fork.beq (fun _ => ?_) (fun _ => ?_) | refine Fork.seq (fun _ => ?_) (fun _ => ?_) | refine Fork.sne (fun _ => ?_) (fun _ => ?_) | refine Fork.neg (fun _ => ?_) (fun _ => ?_) | refine Fork.mk (fun _ => ?_) (fun _ => ?_) | refine GFork.fork (.val (.bool false)) (fun hgf => ?_) (fun hgf => ?_) | refine HAlt.mk ?_ ?_ | apply HJoin.mk3 | exact HEnd.mk rfl rfl rfl | refine HEnd.mk ?_ ?_ ?_ | refine Round.mk ?_ | refine NilQ.mk (fun b hb => ?_) | refine forceK_of ?_ | refine forceBx_of ?_ | refine unG_old ?_ | refine unG_gv ?_ | refine Lit.read rfl ?_ | refine LitO.own rfl ?_ | refine FinVal.keep ?_ | refine FinAgg.keep ?_ | refine Final.mk rfl rfl | refine Final.mk ?_ rfl | refine Final.mk ?_ ?_ | refine FinalT.mk ?_ ?_ | refine FinalI.mk ?_ | refine FinalC.cur ?_ | refine ACall.drw (hd) rfl (by assumption) (by repeat' first | exact SeesL.nil | refine SeesL.cons ?_ ?_ | exact Or.inl ⟨rfl, rfl⟩ | exact Or.inr (Sees0.str _) | exact Or.inr (Sees0.val _) | exact Or.inr (Sees0.olds _ _) | exact Or.inr (Sees0.old _) | exact Or.inr (Sees0.oldagg _) | exact Or.inr (Sees0.list rfl) | exact Or.inr Sees0.nil) rfl (fun a i' h' hi' hq => ?_))
    | refine AV.bool_congr ?_ | refine AV.int_congr ?_ | refine AV.str_congr ?_ | refine AV.list_congr ?_ | with_reducible rfl | refine fr1 ?_ | refine fr2 ?_ ?_
  exact DrwEnd.at _ (by assumption) trivial
theorem getD_in {α : Type} {xs : List α} {n : Int} (d : α) (h0 : xs ≠ []) (h : 0 ≤ n ∧ (n < xs.length ∨ n = 0)) : xs.getD n.toNat d ∈ xs := by
  have hp := List.length_pos_iff.2 h0
  have hn : n.toNat < xs.length := by omega
  simp [List.getD, hn]
theorem dInt.drw (xs : List Int) (h0 : xs ≠ []) (h1 : xs.length ≤ 256) : Drw false Try.prog 87 [.list none (rows Ty.int xs)] (fun n : Int => n ∈ xs) (fun n => .v (.int .i64 n)) := by
  have hp := List.length_pos_iff.2 h0
  refine Drw.of fun l i h hi => dInt.ofL rfl rfl ?_
  have hd := dBelow.drw ((rows Ty.int xs).length : Nat) (by rw [length_rows]; omega)
  repeat' first
    | contradiction | exact trivial
    | (conv => whnf
       first | refine Need.mk (fun h => h) ?_ | refine Need.mk rfl ?_ | refine Need.mk ⟨rfl, Nat.le_of_ble_eq_true rfl⟩ ?_ | refine Need.mk (Nat.le_of_ble_eq_true rfl) ?_ | refine Need.fin ?_ | refine Need.mk ?_ ?_ | refine Ix.strsF rfl ?_ | refine Ix.strs rfl ?_ ?_ | refine Cut.strs rfl ?_ ?_ | refine Ix.mapF (fun _ => rfl) ?_ | refine Ix.map (fun _ => rfl) ?_ ?_ | refine Cut.map (fun _ => rfl) ?_ ?_ | refine Fork.yes (by assumption) ?_ | refine Fork.no (by assumption) ?_ | refine Fork.decYes (by omega) ?_ | refine Fork.decNo (by omega) ?_ | refine Fork.dec (fun _ => ?_) (fun _ => ?_) | refine Fork.bne (fun _ => ?_) (fun _ => ?_) | refine Fork.beq (fun _ => ?_) (fun _ => ?_) | refine Fork.seq (fun _ => ?_) (fun _ => ?_) | refine Fork.sne (fun _ => ?_) (fun _ => ?_) | refine Fork.neg (fun _ => ?_) (fun _ => ?_) | refine Fork.mk (fun _ => ?_) (fun _ => ?_) | refine GFork.fork (.val (.bool false)) (fun hgf => ?_) (fun hgf => ?_) | refine HAlt.mk ?_ ?_ | apply HJoin.mk3 | exact HEnd.mk rfl rfl rfl | refine HEnd.mk ?_ ?_ ?_ | refine Round.mk ?_ | refine NilQ.mk (fun b hb => ?_) | refine forceK_of ?_ | refine forceBx_of ?_ | refine unG_old ?_ | refine unG_gv ?_ | refine Lit.read rfl ?_ | refine LitO.own rfl ?_ | refine FinVal.keep ?_ | refine FinAgg.keep ?_ | refine Final.mk rfl rfl | refine Final.mk ?_ rfl | refine Final.mk ?_ ?_ | refine FinalT.mk ?_ ?_ | refine FinalI.mk ?_ | refine FinalC.cur ?_ | refine ACall.drw (hd) rfl (by assumption) (by repeat' first | exact SeesL.nil | refine SeesL.cons ?_ ?_ | exact Or.inl ⟨rfl, rfl⟩ | exact Or.inr (Sees0.str _) | exact Or.inr (Sees0.val _) | exact Or.inr (Sees0.olds _ _) | exact Or.inr (Sees0.old _) | exact Or.inr (Sees0.oldagg _) | exact Or.inr (Sees0.list rfl) | exact Or.inr Sees0.nil) rfl (fun a i' h' hi' hq => ?_))
    | refine AV.bool_congr ?_ | refine AV.int_congr ?_ | refine AV.str_congr ?_ | refine AV.list_congr ?_ | with_reducible rfl | refine fr1 ?_ | refine fr2 ?_ ?_
  all_goals try simp only [length_rows] at *
  exact DrwEnd.at _ (by assumption) (getD_in _ h0 hq)
theorem dStr.drw (xs : List Str) (h0 : xs ≠ []) (h1 : xs.length ≤ 256) : Drw false Try.prog 89 [.list none (strs xs)] (fun n : Str => n ∈ xs) (fun n => .s n) := by
  have hp := List.length_pos_iff.2 h0
  refine Drw.of fun l i h hi => dStr.ofL rfl rfl ?_
  have hd := dBelow.drw ((strs xs).length : Nat) (by rw [length_strs]; omega)
  repeat' first
    | contradiction | exact trivial
    | (conv => whnf
       first | refine Need.mk (fun h => h) ?_ | refine Need.mk rfl ?_ | refine Need.mk ⟨rfl, Nat.le_of_ble_eq_true rfl⟩ ?_ | refine Need.mk (Nat.le_of_ble_eq_true rfl) ?_ | refine Need.fin ?_ | refine Need.mk ?_ ?_ | refine Ix.strsF rfl ?_ | refine Ix.strs rfl ?_ ?_ | refine Cut.strs rfl ?_ ?_ | refine Ix.mapF (fun _ => rfl) ?_ | refine Ix.map (fun _ => rfl) ?_ ?_ | refine Cut.map (fun _ => rfl) ?_ ?_ | refine Fork.yes (by assumption) ?_ | refine Fork.no (by assumption) ?_ | refine Fork.decYes (by omega) ?_ | refine Fork.decNo (by omega) ?_ | refine Fork.dec (fun _ => ?_) (fun _ => ?_) | refine Fork.bne (fun _ => ?_) (fun _ => ?_) | refine Fork.beq (fun _ => ?_) (fun _ => ?_) | refine Fork.seq (fun _ => ?_) (fun _ => ?_) | refine Fork.sne (fun _ => ?_) (fun _ => ?_) | refine Fork.neg (fun _ => ?_) (fun _ => ?_) | refine Fork.mk (fun _ => ?_) (fun _ => ?_) | refine GFork.fork (.val (.bool false)) (fun hgf => ?_) (fun hgf => ?_) | refine HAlt.mk ?_ ?_ | apply HJoin.mk3 | exact HEnd.mk rfl rfl rfl | refine HEnd.mk ?_ ?_ ?_ | refine Round.mk ?_ | refine NilQ.mk (fun b hb => ?_) | refine forceK_of ?_ | refine forceBx_of ?_ | refine unG_old ?_ | refine unG_gv ?_ | refine Lit.read rfl ?_ | refine LitO.own rfl ?_ | refine FinVal.keep ?_ | refine FinAgg.keep ?_ | refine Final.mk rfl rfl | refine Final.mk ?_ rfl | refine Final.mk ?_ ?_ | refine FinalT.mk ?_ ?_ | refine FinalI.mk ?_ | refine FinalC.cur ?_ | refine ACall.drw (hd) rfl (by assumption) (by repeat' first | exact SeesL.nil | refine SeesL.cons ?_ ?_ | exact Or.inl ⟨rfl, rfl⟩ | exact Or.inr (Sees0.str _) | exact Or.inr (Sees0.val _) | exact Or.inr (Sees0.olds _ _) | exact Or.inr (Sees0.old _) | exact Or.inr (Sees0.oldagg _) | exact Or.inr (Sees0.list rfl) | exact Or.inr Sees0.nil) rfl (fun a i' h' hi' hq => ?_))
    | refine AV.bool_congr ?_ | refine AV.int_congr ?_ | refine AV.str_congr ?_ | refine AV.list_congr ?_ | with_reducible rfl | refine fr1 ?_ | refine fr2 ?_ ?_
  all_goals try simp only [length_strs] at *
  exact DrwEnd.at _ (by assumption) (getD_in _ h0 hq)
def atoms : List Str := [[97], [98], [99], [49], [50]]
theorem dAtom.drw : Drw false Try.prog 50 [] (fun s : Str => s ∈ atoms) (fun s => .s s) := by
  refine Drw.of fun l i h hi => dAtom.ofL rfl rfl ?_
  have hd := dStr.drw atoms (by decide) (by decide)
  repeat' first
    | contradiction | exact trivial
    | (conv => whnf
       first | refine Need.mk (fun h => h) ?_ | refine Need.mk rfl ?_ | refine Need.mk ⟨rfl, Nat.le_of_ble_eq_true rfl⟩ ?_ | refine Need.mk (Nat.le_of_ble_eq_true rfl) ?_ | refine Need.fin ?_ | refine Need.mk ?_ ?_ | refine Ix.strsF rfl ?_ | refine Ix.strs rfl ?_ ?_ | refine Cut.strs rfl ?_ ?_ | refine Ix.mapF (fun _ => rfl) ?_ | refine Ix.map (fun _ => rfl) ?_ ?_ | refine Cut.map (fun _ => rfl) ?_ ?_ | refine Fork.yes (by assumption) ?_ | refine Fork.no (by assumption) ?_ | refine Fork.decYes (by omega) ?_ | refine Fork.decNo (by omega) ?_ | refine Fork.dec (fun _ => ?_) (fun _ => ?_) | refine Fork.bne (fun _ => ?_) (fun _ => ?_) | refine Fork.beq (fun _ => ?_) (fun _ => ?_) | refine Fork.seq (fun _ => ?_) (fun _ => ?_) | refine Fork.sne (fun _ => ?_) (fun _ => ?_) | refine Fork.neg (fun _ => ?_) (fun _ => ?_) | refine Fork.mk (fun _ => ?_) (fun _ => ?_) | refine GFork.fork (.val (.bool false)) (fun hgf => ?_) (fun hgf => ?_) | refine HAlt.mk ?_ ?_ | apply HJoin.mk3 | exact HEnd.mk rfl rfl rfl | refine HEnd.mk ?_ ?_ ?_ | refine Round.mk ?_ | refine NilQ.mk (fun b hb => ?_) | refine forceK_of ?_ | refine forceBx_of ?_ | refine unG_old ?_ | refine unG_gv ?_ | refine Lit.read rfl ?_ | refine LitO.own rfl ?_ | refine FinVal.keep ?_ | refine FinAgg.keep ?_ | refine Final.mk rfl rfl | refine Final.mk ?_ rfl | refine Final.mk ?_ ?_ | refine FinalT.mk ?_ ?_ | refine FinalI.mk ?_ | refine FinalC.cur ?_ | refine ACall.drw (hd) rfl (by assumption) (by repeat' first | exact SeesL.nil | refine SeesL.cons ?_ ?_ | exact Or.inl ⟨rfl, rfl⟩ | exact Or.inr (Sees0.str _) | exact Or.inr (Sees0.val _) | exact Or.inr (Sees0.olds _ _) | exact Or.inr (Sees0.old _) | exact Or.inr (Sees0.oldagg _) | exact Or.inr (Sees0.list rfl) | exact Or.inr Sees0.nil) rfl (fun a i' h' hi' hq => ?_))
    | refine AV.bool_congr ?_ | refine AV.int_congr ?_ | refine AV.str_congr ?_ | refine AV.list_congr ?_ | with_reducible rfl | refine fr1 ?_ | refine fr2 ?_ ?_
  exact DrwEnd.at _ (by assumption) (by assumption)
def words : List Str := [[97], [98], [111, 110], [55], [49, 48], [57, 57, 57, 57], [49, 48, 48, 48, 48], [48, 48, 55], [48], [], [65], [63, 120], [63, 63], [63], [97, 98, 99, 100, 101, 102, 103, 104], [97, 98, 99, 100, 101, 102, 103, 104, 105], [63, 97, 98, 99, 100, 101, 102, 103, 104], [97, 45, 98], [120, 49], [49, 120], [45, 51]]
theorem dWord.drw : Drw false Try.prog 81 [] (fun s : Str => s ∈ words) (fun s => .s s) := by
  refine Drw.of fun l i h hi => dWord.ofL rfl rfl ?_
  have hd := dStr.drw words (by decide) (by decide)
  repeat' first
    | contradiction | exact trivial
    | (conv => whnf
       first | refine Need.mk (fun h => h) ?_ | refine Need.mk rfl ?_ | refine Need.mk ⟨rfl, Nat.le_of_ble_eq_true rfl⟩ ?_ | refine Need.mk (Nat.le_of_ble_eq_true rfl) ?_ | refine Need.fin ?_ | refine Need.mk ?_ ?_ | refine Ix.strsF rfl ?_ | refine Ix.strs rfl ?_ ?_ | refine Cut.strs rfl ?_ ?_ | refine Ix.mapF (fun _ => rfl) ?_ | refine Ix.map (fun _ => rfl) ?_ ?_ | refine Cut.map (fun _ => rfl) ?_ ?_ | refine Fork.yes (by assumption) ?_ | refine Fork.no (by assumption) ?_ | refine Fork.decYes (by omega) ?_ | refine Fork.decNo (by omega) ?_ | refine Fork.dec (fun _ => ?_) (fun _ => ?_) | refine Fork.bne (fun _ => ?_) (fun _ => ?_) | refine Fork.beq (fun _ => ?_) (fun _ => ?_) | refine Fork.seq (fun _ => ?_) (fun _ => ?_) | refine Fork.sne (fun _ => ?_) (fun _ => ?_) | refine Fork.neg (fun _ => ?_) (fun _ => ?_) | refine Fork.mk (fun _ => ?_) (fun _ => ?_) | refine GFork.fork (.val (.bool false)) (fun hgf => ?_) (fun hgf => ?_) | refine HAlt.mk ?_ ?_ | apply HJoin.mk3 | exact HEnd.mk rfl rfl rfl | refine HEnd.mk ?_ ?_ ?_ | refine Round.mk ?_ | refine NilQ.mk (fun b hb => ?_) | refine forceK_of ?_ | refine forceBx_of ?_ | refine unG_old ?_ | refine unG_gv ?_ | refine Lit.read rfl ?_ | refine LitO.own rfl ?_ | refine FinVal.keep ?_ | refine FinAgg.keep ?_ | refine Final.mk rfl rfl | refine Final.mk ?_ rfl | refine Final.mk ?_ ?_ | refine FinalT.mk ?_ ?_ | refine FinalI.mk ?_ | refine FinalC.cur ?_ | refine ACall.drw (hd) rfl (by assumption) (by repeat' first | exact SeesL.nil | refine SeesL.cons ?_ ?_ | exact Or.inl ⟨rfl, rfl⟩ | exact Or.inr (Sees0.str _) | exact Or.inr (Sees0.val _) | exact Or.inr (Sees0.olds _ _) | exact Or.inr (Sees0.old _) | exact Or.inr (Sees0.oldagg _) | exact Or.inr (Sees0.list rfl) | exact Or.inr Sees0.nil) rfl (fun a i' h' hi' hq => ?_))
    | refine AV.bool_congr ?_ | refine AV.int_congr ?_ | refine AV.str_congr ?_ | refine AV.list_congr ?_ | with_reducible rfl | refine fr1 ?_ | refine fr2 ?_ ?_
  exact DrwEnd.at _ (by assumption) (by assumption)
theorem word_len : ∀ s ∈ words, s.length ≤ 10 := by decide
theorem atom_len : ∀ s ∈ atoms, s.length ≤ 10 := by decide
def rels : List Str := [[111, 110], [111, 110], [97, 116], [112], [113], [122]]
theorem rel_name : ∀ s ∈ rels, nameF s = true ∧ s.length ≤ 10 := by decide
def arity : List Int := [2, 2, 2, 1, 1, 0]
theorem dRel.drw : Drw false Try.prog 118 [] (fun x : Str × Int => x.1 ∈ rels ∧ 0 ≤ x.2 ∧ x.2 ≤ 2) (fun x => .p [.s x.1, .v (.int .i64 x.2)]) := by
  refine Drw.of fun l i h hi => dRel.ofL rfl rfl ?_
  have hd := dBelow.drw 6 (by decide)
  have ix1 : ∀ {a : Int}, 0 ≤ a ∧ (a < 6 ∨ a = 0) → 0 ≤ a ∧ (strs rels)[a.toNat]? = some [.str (rels.getD a.toNat [])] ∧ [AV.str (rels.getD a.toNat [])].length = 1 := fun {a} hq => by
    refine ⟨hq.1, ?_, rfl⟩
    have : a.toNat < rels.length := by show a.toNat < 6; omega
    rw [strs_eq, List.getElem?_map, List.getElem?_eq_getElem this]
    simp [List.getD, this]
  have ix2 : ∀ {a : Int}, 0 ≤ a ∧ (a < 6 ∨ a = 0) → 0 ≤ a ∧ (rows Ty.int arity)[a.toNat]? = some [.val (.int .i64 (arity.getD a.toNat 0))] ∧ [AV.val (.int .i64 (arity.getD a.toNat 0))].length = 1 := fun {a} hq => by
    refine ⟨hq.1, ?_, rfl⟩
    have : a.toNat < arity.length := by show a.toNat < 6; omega
    rw [rows, oldLL_eq, List.map_map, List.getElem?_map, List.getElem?_eq_getElem this]
    simp [List.getD, this, Ty.int, old]
  have hr : ∀ {a : Int}, 0 ≤ a ∧ (a < 6 ∨ a = 0) → rels.getD a.toNat [] ∈ rels ∧ 0 ≤ arity.getD a.toNat 0 ∧ arity.getD a.toNat 0 ≤ 2 := fun {a} hq => by
    have h1 := getD_in (xs := rels) [] (by decide) (n := a) hq
    have h2 := getD_in (xs := arity) 0 (by decide) (n := a) hq
    exact ⟨h1, (by decide : ∀ x ∈ arity, 0 ≤ x ∧ x ≤ 2) _ h2⟩
  repeat' first
    | contradiction | exact trivial
    | (conv => whnf
       first | refine Need.mk (fun h => h) ?_ | refine Need.mk rfl ?_ | refine Need.mk ⟨rfl, Nat.le_of_ble_eq_true rfl⟩ ?_ | refine Need.mk (Nat.le_of_ble_eq_true rfl) ?_ | refine Need.fin ?_ | refine Need.mk ?_ ?_ | refine Ix.mk _ (fun _ => ix1 hq) ?_ | refine Ix.mk _ (fun _ => ix2 hq) ?_ | refine Ix.strsF rfl ?_ | refine Ix.strs rfl ?_ ?_ | refine Cut.strs rfl ?_ ?_ | refine Ix.mapF (fun _ => rfl) ?_ | refine Ix.map (fun _ => rfl) ?_ ?_ | refine Cut.map (fun _ => rfl) ?_ ?_ | refine Fork.yes (by assumption) ?_ | refine Fork.no (by assumption) ?_ | refine Fork.decYes (by omega) ?_ | refine Fork.decNo (by omega) ?_ | refine Fork.dec (fun _ => ?_) (fun _ => ?_) | refine Fork.bne (fun _ => ?_) (fun _ => ?_) | refine Fork.beq (fun _ => ?_) (fun _ => ?_) | refine Fork.seq (fun _ => ?_) (fun _ => ?_) | refine Fork.sne (fun _ => ?_) (fun _ => ?_) | refine Fork.neg (fun _ => ?_) (fun _ => ?_) | refine Fork.mk (fun _ => ?_) (fun _ => ?_) | refine GFork.fork (.val (.bool false)) (fun hgf => ?_) (fun hgf => ?_) | refine HAlt.mk ?_ ?_ | refine HJoin.split ?_ | exact HEnd.mk rfl rfl rfl | refine HEnd.mk ?_ ?_ ?_ | refine Round.mk ?_ | refine NilQ.mk (fun b hb => ?_) | refine forceK_of ?_ | refine forceBx_of ?_ | refine unG_old ?_ | refine unG_gv ?_ | refine Lit.read rfl ?_ | refine LitO.own rfl ?_ | refine FinVal.keep ?_ | refine FinAgg.keep ?_ | refine Final.mk rfl rfl | refine Final.mk ?_ rfl | refine Final.mk ?_ ?_ | refine FinalT.mk ?_ ?_ | refine FinalI.mk ?_ | refine FinalC.cur ?_ | refine ACall.drw (hd) rfl (by assumption) (by repeat' first | exact SeesL.nil | refine SeesL.cons ?_ ?_ | exact Or.inl ⟨rfl, rfl⟩ | exact Or.inr (Sees0.str _) | exact Or.inr (Sees0.val _) | exact Or.inr (Sees0.olds _ _) | exact Or.inr (Sees0.old _) | exact Or.inr (Sees0.oldagg _) | exact Or.inr (Sees0.list rfl) | exact Or.inr Sees0.nil) rfl (fun a i' h' hi' hq => ?_))
    | refine AV.bool_congr ?_ | refine AV.int_congr ?_ | refine AV.str_congr ?_ | refine AV.list_congr ?_ | with_reducible rfl | refine fr1 ?_ | refine fr2 ?_ ?_
  all_goals exact DrwEnd.at (rels.getD a.toNat [], arity.getD a.toNat 0) (by assumption) (hr hq)
def terms : List Str := [[63, 120], [63, 121], [63, 122]]
theorem term_len : ∀ s ∈ terms, s.length ≤ 10 := by decide
theorem dTerm.drw : Drw false Try.prog 120 [] (fun s : Str => s ∈ atoms ∨ s ∈ terms) (fun s => .s s) := by
  refine Drw.of fun l i h hi => dTerm.ofL rfl rfl ?_
  have hd := dStr.drw terms (by decide) (by decide)
  have ho := dOnce.drw 4 (by decide)
  repeat' first
    | contradiction | exact trivial
    | (conv => whnf
       first | refine Need.mk (fun h => h) ?_ | refine Need.mk rfl ?_ | refine Need.mk ⟨rfl, Nat.le_of_ble_eq_true rfl⟩ ?_ | refine Need.mk (Nat.le_of_ble_eq_true rfl) ?_ | refine Need.fin ?_ | refine Need.mk ?_ ?_ | refine Ix.strsF rfl ?_ | refine Ix.strs rfl ?_ ?_ | refine Cut.strs rfl ?_ ?_ | refine Ix.mapF (fun _ => rfl) ?_ | refine Ix.map (fun _ => rfl) ?_ ?_ | refine Cut.map (fun _ => rfl) ?_ ?_ | refine Fork.yes (by assumption) ?_ | refine Fork.no (by assumption) ?_ | refine Fork.decYes (by omega) ?_ | refine Fork.decNo (by omega) ?_ | refine Fork.dec (fun _ => ?_) (fun _ => ?_) | refine Fork.bne (fun _ => ?_) (fun _ => ?_) | refine Fork.beq (fun _ => ?_) (fun _ => ?_) | refine Fork.seq (fun _ => ?_) (fun _ => ?_) | refine Fork.sne (fun _ => ?_) (fun _ => ?_) | refine Fork.neg (fun _ => ?_) (fun _ => ?_) | refine Fork.mk (fun _ => ?_) (fun _ => ?_) | refine GFork.fork (.val (.bool false)) (fun hgf => ?_) (fun hgf => ?_) | refine HAlt.mk ?_ ?_ | apply HJoin.mk3 | exact HEnd.mk rfl rfl rfl | refine HEnd.mk ?_ ?_ ?_ | refine Round.mk ?_ | refine NilQ.mk (fun b hb => ?_) | refine forceK_of ?_ | refine forceBx_of ?_ | refine unG_old ?_ | refine unG_gv ?_ | refine Lit.read rfl ?_ | refine LitO.own rfl ?_ | refine FinVal.keep ?_ | refine FinAgg.keep ?_ | refine Final.mk rfl rfl | refine Final.mk ?_ rfl | refine Final.mk ?_ ?_ | refine FinalT.mk ?_ ?_ | refine FinalI.mk ?_ | refine FinalC.cur ?_ | refine ACall.drw (hd) rfl (by assumption) (by repeat' first | exact SeesL.nil | refine SeesL.cons ?_ ?_ | exact Or.inl ⟨rfl, rfl⟩ | exact Or.inr (Sees0.str _) | exact Or.inr (Sees0.val _) | exact Or.inr (Sees0.olds _ _) | exact Or.inr (Sees0.old _) | exact Or.inr (Sees0.oldagg _) | exact Or.inr (Sees0.list rfl) | exact Or.inr Sees0.nil) rfl (fun a i' h' hi' hq => ?_) | refine ACall.drw (ho) rfl (by assumption) (by repeat' first | exact SeesL.nil | refine SeesL.cons ?_ ?_ | exact Or.inl ⟨rfl, rfl⟩ | exact Or.inr (Sees0.str _) | exact Or.inr (Sees0.val _) | exact Or.inr (Sees0.olds _ _) | exact Or.inr (Sees0.old _) | exact Or.inr (Sees0.oldagg _) | exact Or.inr (Sees0.list rfl) | exact Or.inr Sees0.nil) rfl (fun a i' h' hi' hq => ?_) | refine ACall.drw (dAtom.drw) rfl (by assumption) (by repeat' first | exact SeesL.nil | refine SeesL.cons ?_ ?_ | exact Or.inl ⟨rfl, rfl⟩ | exact Or.inr (Sees0.str _) | exact Or.inr (Sees0.val _) | exact Or.inr (Sees0.olds _ _) | exact Or.inr (Sees0.old _) | exact Or.inr (Sees0.oldagg _) | exact Or.inr (Sees0.list rfl) | exact Or.inr Sees0.nil) rfl (fun a i' h' hi' hq => ?_))
    | refine AV.bool_congr ?_ | refine AV.int_congr ?_ | refine AV.str_congr ?_ | refine AV.list_congr ?_ | with_reducible rfl | refine fr1 ?_ | refine fr2 ?_ ?_
  · exact DrwEnd.at _ (by assumption) (.inl (by assumption))
  · exact DrwEnd.at _ (by assumption) (.inr (by assumption))
/-- a new cursor -/
def hNext (l : List Int) (a : Nat × Int) : Int := IntKind.i64.wrap ((((BitVec.ofInt 64 (IntKind.i64.wrap (IntKind.i64.wrap (IntKind.i64.wrap (a.2 * 167) + IntKind.i64.wrap (l.getD (a.1 : Int).toNat default)) + 29))) &&& BitVec.ofInt 64 1073741823).toNat : Nat) : Int)
theorem dNew.ins {mo : Bool} (l : List Int) (i0 : Int) (hl : CurOk l i0) (b : List ABox) (f : Fr) : Abs.Ins mo Try.prog 34 b f [.list none (rows tByte l)] (fun r b1 f1 => ∃ i h, r = .bptr b.length 0 ∧ b1 = b ++ [curB l i h] ∧ CurOk l i ∧ f1 = f) := by
  refine dNew.ofI rfl ?_
  obtain ⟨h0, h1, h2, h3⟩ := id hl
  repeat' first
    | contradiction | exact trivial
    | (conv => whnf
       first | refine Need.mk (fun h => h) ?_ | refine Need.mk rfl ?_ | refine Need.mk ⟨rfl, Nat.le_of_ble_eq_true rfl⟩ ?_ | refine Need.mk (Nat.le_of_ble_eq_true rfl) ?_ | refine Need.fin ?_ | refine Need.mk ?_ ?_ | refine Ix.strsF rfl ?_ | refine Ix.strs rfl ?_ ?_ | refine Cut.strs rfl ?_ ?_ | refine Ix.mapF (fun _ => rfl) ?_ | refine Ix.map (fun _ => rfl) ?_ ?_ | refine Cut.map (fun _ => rfl) ?_ ?_ | refine Fork.yes (by assumption) ?_ | refine Fork.no (by assumption) ?_ | refine Fork.decYes (by omega) ?_ | refine Fork.decNo (by omega) ?_ | refine Fork.dec (fun _ => ?_) (fun _ => ?_) | refine Fork.bne (fun _ => ?_) (fun _ => ?_) | refine Fork.beq (fun _ => ?_) (fun _ => ?_) | refine Fork.seq (fun _ => ?_) (fun _ => ?_) | refine Fork.sne (fun _ => ?_) (fun _ => ?_) | refine Fork.neg (fun _ => ?_) (fun _ => ?_) | refine Fork.mk (fun _ => ?_) (fun _ => ?_) | refine GFork.fork (.val (.bool false)) (fun hgf => ?_) (fun hgf => ?_) | refine HAlt.mk ?_ ?_ | apply HJoin.mk3 | exact HEnd.mk rfl rfl rfl | refine HEnd.mk ?_ ?_ ?_ | refine Round.mk ?_ | refine NilQ.mk (fun b hb => ?_) | refine forceK_of ?_ | refine forceBx_of ?_ | refine unG_old ?_ | refine unG_gv ?_ | refine Lit.read rfl ?_ | refine LitO.own rfl ?_ | refine FinVal.keep ?_ | refine FinAgg.keep ?_ | refine Final.mk rfl rfl | refine Final.mk ?_ rfl | refine Final.mk ?_ ?_ | refine FinalT.mk ?_ ?_ | refine FinalI.mk ?_ | refine FinalC.allA ?_)
    | refine AV.bool_congr ?_ | refine AV.int_congr ?_ | refine AV.str_congr ?_ | refine AV.list_congr ?_ | with_reducible rfl | refine fr1 ?_ | refine fr2 ?_ ?_
  refine ALoop.mk (Nat × Int) (fun a => ⟨[(0, .list none (rows tByte l)), (3, .val (.int .i64 a.2)), (4, .val (.int .i64 a.1))], b, f⟩) (fun a => a.1 ≤ l.length) (fun a => l.length - a.1) ⟨(0, IntKind.i64.wrap (851207 + IntKind.i64.wrap (3 * ((rows tByte l).length : Nat)))), Nat.zero_le _, ?_⟩ (fun a ha => ?_)
  · refine Weak.mk ?_ (List.take_length ..) rfl (Nat.le_refl _) (Or.inl (Nat.le_refl _))
    repeat' first
      | exact trivial
      | refine And.intro ?_ ?_
      | with_reducible rfl
      | refine AV.int_congr ?_
      | refine AV.bool_congr ?_
      | refine AV.str_congr ?_
      | refine AV.list_congr ?_
      | (apply rfl)
  repeat' first
    | contradiction | exact trivial
    | (conv => whnf
       first | refine Need.mk (fun h => h) ?_ | refine Need.mk rfl ?_ | refine Need.mk ⟨rfl, Nat.le_of_ble_eq_true rfl⟩ ?_ | refine Need.mk (Nat.le_of_ble_eq_true rfl) ?_ | refine Need.fin ?_ | refine Need.mk ?_ ?_ | refine Ix.strsF rfl ?_ | refine Ix.strs rfl ?_ ?_ | refine Cut.strs rfl ?_ ?_ | refine Ix.mapF (fun _ => rfl) ?_ | refine Ix.map (fun _ => rfl) ?_ ?_ | refine Cut.map (fun _ => rfl) ?_ ?_ | refine Fork.yes (by assumption) ?_ | refine Fork.no (by assumption) ?_ | refine Fork.decYes (by omega) ?_ | refine Fork.decNo (by omega) ?_ | refine Fork.dec (fun _ => ?_) (fun _ => ?_) | refine Fork.bne (fun _ => ?_) (fun _ => ?_) | refine Fork.beq (fun _ => ?_) (fun _ => ?_) | refine Fork.seq (fun _ => ?_) (fun _ => ?_) | refine Fork.sne (fun _ => ?_) (fun _ => ?_) | refine Fork.neg (fun _ => ?_) (fun _ => ?_) | refine Fork.mk (fun _ => ?_) (fun _ => ?_) | refine GFork.fork (.val (.bool false)) (fun hgf => ?_) (fun hgf => ?_) | refine HAlt.mk ?_ ?_ | apply HJoin.mk3 | exact HEnd.mk rfl rfl rfl | refine HEnd.mk ?_ ?_ ?_ | refine Round.mk ?_ | refine NilQ.mk (fun b hb => ?_) | refine forceK_of ?_ | refine forceBx_of ?_ | refine unG_old ?_ | refine unG_gv ?_ | refine Lit.read rfl ?_ | refine LitO.own rfl ?_ | refine FinVal.keep ?_ | refine FinAgg.keep ?_ | refine Final.mk rfl rfl | refine Final.mk ?_ rfl | refine Final.mk ?_ ?_ | refine FinalT.mk ?_ ?_ | refine FinalI.mk ?_ | refine FinalC.allA ?_)
    | refine AV.bool_congr ?_ | refine AV.int_congr ?_ | refine AV.str_congr ?_ | refine AV.list_congr ?_ | with_reducible rfl | refine fr1 ?_ | refine fr2 ?_ ?_
  all_goals try simp only [length_rows, Bool.and_eq_true, decide_eq_true_eq] at *
  · refine ⟨(a.1 + 1, hNext l a), ?_, ?_, ?_⟩
    · show a.1 + 1 ≤ l.length
      omega
    · refine Weak.mk ?_ (List.take_length ..) rfl (Nat.le_refl _) (Or.inl (Nat.le_refl _))
      repeat' first
        | exact trivial
        | refine And.intro ?_ ?_
        | with_reducible rfl
        | refine AV.int_congr ?_
        | refine AV.bool_congr ?_
        | refine AV.str_congr ?_
        | refine AV.list_congr ?_
        | (apply rfl)
      rw [wrap64 (by omega) (by omega)]; rfl
    · show l.length - (a.1 + 1) < l.length - a.1
      omega
  · exact ⟨0, a.2, by first | rfl | trivial, by first | rfl | trivial, ⟨Int.le_refl _, by omega, h2, h3⟩, by first | rfl | trivial⟩
theorem Abs.ACall.newC {f : Nat} {l : List Int} {b : List ABox} {fr : Fr} {k : AV → List ABox → Fr → Prop} {mo : Bool} {vs : List AV} (h : Abs.Ins mo Try.prog f b fr vs (fun r b1 f1 => ∃ i h, r = .bptr b.length 0 ∧ b1 = b ++ [curB l i h] ∧ CurOk l i ∧ f1 = fr)) (hn : noCond vs = true)
    (hk : ∀ i h, CurOk l i → k (.bptr b.length 0) (b ++ [curB l i h]) fr) : ACall (Kn mo Try.prog) true f vs b fr k :=
  .ins rfl _ h hn (by rintro _ _ _ ⟨i, q, rfl, rfl, hi, rfl⟩; exact hk i q hi)
end Go.Proofs.Ytkbblglbbfdnpaa
namespace Go.Proofs.Ytkbblglbbfdnpaa
open Abs
attribute [local irreducible] parseF
@[irreducible] def scmp (a b : Str) : Int := if Op.bytesLess a b then -1 else if a = b then 0 else 1
@[irreducible] def icmp (a b : Int) : Int := if a < b then -1 else if a = b then 0 else 1
def cmpA (a b : Str) : Int :=
  if (parseF a).2 then (if (parseF b).2 then icmp (parseF a).1 (parseF b).1 else -1) else (if (parseF b).2 then 1 else scmp a b)
theorem sCmp.ret (a b : Str) : sCmp.Ret [.str a, .str b] (.val (.int .i64 (scmp a b))) [] := by
  refine sCmp.of rfl ?_
  repeat' first
    | (conv => whnf
       first | refine Fork.neg (fun _ => ?_) (fun _ => ?_) | refine Fork.mk (fun _ => ?_) (fun _ => ?_) | refine FinVal.keep ?_ | refine Final.mk ?_ rfl)
    | refine AV.int_congr ?_
  · rename_i h; simp [scmp, h]
  · rename_i h1 h; simp only [Bool.or_eq_false_iff, beq_eq_false_iff_ne] at h; simp [scmp, h1, h.2]
  · rename_i h1 h; simp only [h1, Bool.false_or, beq_iff_eq] at h; subst h; simp [scmp, bl_irrefl]
theorem sCompareAtoms.ret (a b : Str) (ha : a.length ≤ 1048576) (hb : b.length ≤ 1048576) : sCompareAtoms.Ret [.str a, .str b] (.val (.int .i64 (cmpA a b))) [] := by
  refine sCompareAtoms.of rfl ?_
  repeat' first
    | (conv => whnf
       first | refine Need.mk (fun h => h) ?_ | refine Need.mk rfl ?_ | refine Fork.yes (by assumption) ?_ | refine Fork.mk (fun _ => ?_) (fun _ => ?_) | refine LitO.own rfl ?_ | refine FinVal.keep ?_ | refine Final.mk ?_ rfl | refine ACall.scalA _ _ (sParseInt.ret _ ?_) rfl ?_ | refine ACall.scalA _ _ (sCmp.ret _ _) rfl ?_)
    | refine AV.int_congr ?_
  · exact ha
  · exact hb
  all_goals unfold cmpA icmp
  all_goals (cases hp : (parseF a).2 <;> cases hq : (parseF b).2)
  all_goals simp only [hp, hq, Bool.true_and, Bool.false_and, Bool.and_true, Bool.and_false, Bool.not_true, Bool.not_false, decide_eq_true_eq, decide_eq_false_iff_not, Bool.false_eq_true, Bool.true_eq_false, reduceIte] at *
  all_goals (first | rfl | (split <;> (try split) <;> omega))
end Go.Proofs.Ytkbblglbbfdnpaa
namespace Go.Proofs.Ytkbblglbbfdnpaa
open Abs
def pIsFact.code : ACode := (.seq (.region false [s 1 (.box (t 0)), s 2 (.mv (.const (.bool false)))]) (.seq (.region false [s 3 (.fadr 0 (t 1)), s 4 (.load false 1 (t 3)), s 5 (.fadr 1 (t 1)), s 6 (.load false 1 (t 5)), s 7 (.call 74 [(t 4), (t 6), (.func 62)]), s 2 (.mv (t 7))]) .ret))
def pIsFact.keep : List Nat := [0, 1, 2]
def pIsFact.res : List RRes := [.tmp 2]
theorem pIsFact.of {mo : Bool} {args : List AV} {r : AV} {frs : Fr} (hn : Nat.ble args.length Try.f36.ntmps = true) (h : aCode (Kn mo Try.prog) pIsFact.keep 0 pIsFact.code (doneK pIsFact.res r frs) ⟨argEnv 0 args, [], []⟩) : Abs.Ret mo Try.prog 36 args r frs :=
  Abs.Ret.of_ir Try.func36 rfl (by kernel_rfl) (Nat.le_of_ble_eq_true hn) (by kernel_rfl) (by kernel_rfl) h
abbrev pIsFact.Ret (args : List AV) (r : AV) (frs : Fr) : Prop := Abs.Ret true Try.prog 36 args r frs
def sCompareFacts.code : ACode := (.seq (.region false [s 2 (.box (t 0)), s 3 (.box (t 1)), s 4 (.mv (.const (.int .i64 0)))]) (.seq (.seq (.region false [s 7 (.fadr 0 (t 2)), s 8 (.load false 1 (t 7)), s 9 (.fadr 0 (t 3)), s 10 (.load false 1 (t 9)), s 11 (.bin .neq (t 8) (t 10))]) (.cond (t 11) (.seq (.region false [s 12 (.fadr 0 (t 2)), s 13 (.load false 1 (t 12)), s 14 (.fadr 0 (t 3)), s 15 (.load false 1 (t 14)), s 16 (.call 59 [(t 13), (t 15)]), s 4 (.mv (t 16))]) .ret) .skip)) (.seq (.seq (.region false [s 5 (.mv (.const (.int .i64 0)))]) (.block 0 (.loop (.seq (.seq (.region false [s 17 (.mv (t 5)), s 18 (.fadr 1 (t 2)), s 19 (.load false 1 (t 18)), s 20 (.len false (t 19)), s 21 (.bin .lss (t 17) (t 20)), s 22 (.mv (t 21)), g 22 true 23 (.mv (t 5)), g 22 true 24 (.fadr 1 (t 3)), g 22 true 25 (.load false 1 (t 24)), g 22 true 26 (.len false (t 25)), g 22 true 27 (.bin .lss (t 23) (t 26)), s 28 (.and (t 22) (t 27))]) (.cond (t 28) .skip (.exit 0))) (.seq (.block 1 (.seq (.region true [s 31 (.fadr 1 (t 2)), s 32 (.load false 1 (t 31)), s 33 (.mv (t 5)), s 34 (.iadr 1 (t 32) (t 33)), s 35 (.load false 1 (t 34)), s 36 (.fadr 1 (t 3)), s 37 (.load false 1 (t 36)), s 38 (.mv (t 5)), s 39 (.iadr 1 (t 37) (t 38)), s 40 (.load false 1 (t 39)), s 41 (.call 60 [(t 35), (t 40)]), s 6 (.mv (t 41))]) (.seq (.region false [s 42 (.mv (t 6)), s 43 (.bin .neq (t 42) (.const (.int .i64 0)))]) (.cond (t 43) (.seq (.region false [s 44 (.mv (t 6)), s 4 (.mv (t 44))]) .ret) .skip)))) (.region false [s 29 (.mv (t 5)), s 30 (.bin .add (t 29) (.const (.int .i64 1))), s 5 (.mv (t 30))])))))) (.seq (.block 2 (.seq (.region false [s 46 (.fadr 1 (t 2)), s 47 (.load false 1 (t 46)), s 48 (.len false (t 47)), s 49 (.fadr 1 (t 3)), s 50 (.load false 1 (t 49)), s 51 (.len false (t 50)), s 52 (.bin .lss (t 48) (t 51)), s 45 (.mv (t 52))]) (.cond (t 45) (.seq (.region false [s 4 (.mv (.const (.int .i64 (-1))))]) .ret) (.seq (.region false [s 54 (.fadr 1 (t 2)), s 55 (.load false 1 (t 54)), s 56 (.len false (t 55)), s 57 (.fadr 1 (t 3)), s 58 (.load false 1 (t 57)), s 59 (.len false (t 58)), s 60 (.bin .gtr (t 56) (t 59)), s 53 (.mv (t 60))]) (.cond (t 53) (.seq (.region false [s 4 (.mv (.const (.int .i64 1)))]) .ret) .skip))))) (.seq (.region false [s 4 (.mv (.const (.int .i64 0)))]) .ret)))))
def sCompareFacts.keep : List Nat := [0, 1, 2, 3, 4, 5, 6]
def sCompareFacts.res : List RRes := [.tmp 4]
theorem sCompareFacts.of {mo : Bool} {args : List AV} {r : AV} {frs : Fr} (hn : Nat.ble args.length Try.f22.ntmps = true) (h : aCode (Kn mo Try.prog) sCompareFacts.keep 0 sCompareFacts.code (doneK sCompareFacts.res r frs) ⟨argEnv 0 args, [], []⟩) : Abs.Ret mo Try.prog 22 args r frs :=
  Abs.Ret.of_ir Try.func22 rfl (by kernel_rfl) (Nat.le_of_ble_eq_true hn) (by kernel_rfl) (by kernel_rfl) h
abbrev sCompareFacts.Ret (args : List AV) (r : AV) (frs : Fr) : Prop := Abs.Ret true Try.prog 22 args r frs
def sCopy.code : ACode := (.seq (.region false [s 1 (.box (t 0)), s 2 (.alloc [(.string (.mk (.mk []))), (.slice none 0 0)])]) (.seq (.held [s 3 (.fadr 0 (t 1)), s 4 (.load false 1 (t 3)), s 5 (.fadr 1 (t 1)), s 6 (.load false 1 (t 5)), s 7 (.call 105 [(t 6)])] [s 8 (.build [(.string (.mk (.mk []))), (.slice none 0 0)] [(0, 1), (1, 1)] [(t 4), (t 7)]), ⟨none, none, (.store 2 (t 2) (t 8))⟩]) .ret))
def sCopy.keep : List Nat := [0, 1, 2]
def sCopy.res : List RRes := [.cell 2 true 2]
theorem sCopy.of {mo : Bool} {args : List AV} {r : AV} {frs : Fr} (hn : Nat.ble args.length Try.f71.ntmps = true) (h : aCode (Kn mo Try.prog) sCopy.keep 0 sCopy.code (doneK sCopy.res r frs) ⟨argEnv 0 args, [], []⟩) : Abs.Ret mo Try.prog 71 args r frs :=
  Abs.Ret.of_ir Try.func71 rfl (by kernel_rfl) (Nat.le_of_ble_eq_true hn) (by kernel_rfl) (by kernel_rfl) h
abbrev sCopy.Ret (args : List AV) (r : AV) (frs : Fr) : Prop := Abs.Ret true Try.prog 71 args r frs
def sPut2.code : ACode := (.seq (.region false [s 3 (.box (t 1)), s 4 (.mv (.const (.slice none 0 0)))]) (.seq (.region false [s 8 (.bslice 27 2 true []), s 5 (.mv (t 8))]) (.seq (.region false [s 6 (.mv (.const (.bool false)))]) (.seq (.seq (.region false [s 7 (.mv (.const (.int .i64 0)))]) (.block 0 (.loop (.seq (.seq (.region false [s 9 (.mv (t 7)), s 10 (.mv (t 0)), s 11 (.len false (t 10)), s 12 (.bin .lss (t 9) (t 11))]) (.cond (t 12) .skip (.exit 0))) (.seq (.block 1 (.seq (.seq (.region true [s 15 (.mv (t 6)), s 16 (.not (t 15)), s 17 (.mv (t 16)), g 17 true 18 (.mv (t 0)), g 17 true 19 (.mv (t 7)), g 17 true 20 (.iadr 2 (t 18) (t 19)), g 17 true 21 (.load true 2 (t 20)), g 17 true 22 (.load true 2 (t 3)), g 17 true 23 (.call 22 [(t 21), (t 22)]), g 17 true 24 (.bin .geq (t 23) (.const (.int .i64 0))), s 25 (.and (t 17) (t 24))]) (.cond (t 25) (.seq (.region false [s 6 (.mv (.const (.bool true)))]) (.seq (.region true [s 26 (.mv (t 0)), s 27 (.mv (t 7)), s 28 (.iadr 2 (t 26) (t 27)), s 29 (.load true 2 (t 28)), s 30 (.load true 2 (t 3)), s 31 (.call 22 [(t 29), (t 30)]), s 32 (.bin .gtr (t 31) (.const (.int .i64 0)))]) (.cond (t 32) (.region false [s 33 (.mv (t 5)), s 34 (.load true 2 (t 3)), s 35 (.call 71 [(t 34)]), s 36 (.bslice 27 2 false [(t 35)]), s 37 (.append 27 2 40 (t 33) (t 36)), s 5 (.mv (t 37))]) .skip))) .skip)) (.region false [s 38 (.mv (t 5)), s 39 (.mv (t 0)), s 40 (.mv (t 7)), s 41 (.iadr 2 (t 39) (t 40)), s 42 (.load true 2 (t 41)), s 43 (.call 71 [(t 42)]), s 44 (.bslice 27 2 false [(t 43)]), s 45 (.append 27 2 40 (t 38) (t 44)), s 5 (.mv (t 45))]))) (.region false [s 13 (.mv (t 7)), s 14 (.bin .add (t 13) (.const (.int .i64 1))), s 7 (.mv (t 14))])))))) (.seq (.seq (.region false [s 46 (.mv (t 6)), s 47 (.not (t 46))]) (.cond (t 47) (.region false [s 48 (.mv (t 5)), s 49 (.load true 2 (t 3)), s 50 (.call 71 [(t 49)]), s 51 (.bslice 27 2 false [(t 50)]), s 52 (.append 27 2 40 (t 48) (t 51)), s 5 (.mv (t 52))]) .skip)) (.seq (.region false [s 53 (.mv (t 5)), s 4 (.mv (t 53))]) .ret))))))
def sPut2.keep : List Nat := [0, 1, 3, 4, 5, 6, 7]
def sPut2.res : List RRes := [.tmp 4]
theorem sPut2.of {mo : Bool} {args : List AV} {r : AV} {frs : Fr} (hn : Nat.ble args.length Try.f102.ntmps = true) (h : aCode (Kn mo Try.prog) sPut2.keep 0 sPut2.code (doneK sPut2.res r frs) ⟨argEnv 0 args, [], []⟩) : Abs.Ret mo Try.prog 102 args r frs :=
  Abs.Ret.of_ir Try.func102 rfl (by kernel_rfl) (Nat.le_of_ble_eq_true hn) (by kernel_rfl) (by kernel_rfl) h
abbrev sPut2.Ret (args : List AV) (r : AV) (frs : Fr) : Prop := Abs.Ret true Try.prog 102 args r frs
def pcopyFact.code : ACode := (.seq (.region false [s 1 (.box (t 0)), s 2 (.alloc [(.string (.mk (.mk []))), (.slice none 0 0)])]) (.seq (.held [s 3 (.fadr 0 (t 1)), s 4 (.load false 1 (t 3)), s 5 (.fadr 1 (t 1)), s 6 (.load false 1 (t 5)), s 7 (.call 75 [(t 6)])] [s 8 (.build [(.string (.mk (.mk []))), (.slice none 0 0)] [(0, 1), (1, 1)] [(t 4), (t 7)]), ⟨none, none, (.store 2 (t 2) (t 8))⟩]) .ret))
def pcopyFact.keep : List Nat := [0, 1, 2]
def pcopyFact.res : List RRes := [.cell 2 true 2]
theorem pcopyFact.of {mo : Bool} {args : List AV} {r : AV} {frs : Fr} (hn : Nat.ble args.length Try.f37.ntmps = true) (h : aCode (Kn mo Try.prog) pcopyFact.keep 0 pcopyFact.code (doneK pcopyFact.res r frs) ⟨argEnv 0 args, [], []⟩) : Abs.Ret mo Try.prog 37 args r frs :=
  Abs.Ret.of_ir Try.func37 rfl (by kernel_rfl) (Nat.le_of_ble_eq_true hn) (by kernel_rfl) (by kernel_rfl) h
abbrev pcopyFact.Ret (args : List AV) (r : AV) (frs : Fr) : Prop := Abs.Ret true Try.prog 37 args r frs
end Go.Proofs.Ytkbblglbbfdnpaa
namespace Go.Proofs.Ytkbblglbbfdnpaa
open Abs
def isFactF (f : Fct) : Bool := nameF f.1 && decide ((f.2.length : Int) ≤ 3) && f.2.all atomF
def cmpArgs : List Str → List Str → Int
  | [], [] => 0
  | [], _ :: _ => -1
  | _ :: _, [] => 1
  | a :: l, b :: m => if cmpA a b ≠ 0 then cmpA a b else cmpArgs l m
@[irreducible] def cmpF (f g : Fct) : Int := if f.1 = g.1 then cmpArgs f.2 g.2 else scmp f.1 g.1
theorem scmp_zero {a b : Str} : scmp a b = 0 ↔ a = b := by
  unfold scmp
  constructor
  · intro h
    split at h
    · omega
    · split at h
      · assumption
      · omega
  · rintro rfl; simp [bl_irrefl]
theorem cmpArgs_drop {l m : List Str} {i : Nat} (h1 : i < l.length) (h2 : i < m.length) :
    cmpArgs (l.drop i) (m.drop i) = if cmpA (l.getD i []) (m.getD i []) ≠ 0 then cmpA (l.getD i []) (m.getD i []) else cmpArgs (l.drop (i + 1)) (m.drop (i + 1)) := by
  rw [List.drop_eq_getElem_cons h1, List.drop_eq_getElem_cons h2, cmpArgs]
  simp [List.getD, h1, h2]
theorem cmpArgs_end {l m : List Str} (h : l = [] ∨ m = []) : cmpArgs l m = if l.length < m.length then -1 else if m.length < l.length then 1 else 0 := by
  cases l <;> cases m <;> simp_all [cmpArgs]
theorem sCompareFacts.ret (f g : Fct) (h : tFct.size f ≤ 1048576) (h' : tFct.size g ≤ 1048576) : sCompareFacts.Ret [.agg (oldL (tFct.q f)), .agg (oldL (tFct.q g))] (.val (.int .i64 (cmpF f g))) [] := by
  refine sCompareFacts.of rfl ?_
  rw [tFct_size, tStrs_size] at h h'
  repeat' first
    | (conv => whnf
       first | refine Fork.sne (fun _ => ?_) (fun _ => ?_) | refine FinVal.keep ?_ | refine Final.mk ?_ rfl | refine ACall.scalA _ _ (sCmp.ret _ _) rfl ?_)
    | refine AV.int_congr ?_
  · rename_i h1
    unfold cmpF; rw [if_neg h1]
  rename_i h1
  skip
  refine ALoop.mk Nat (fun i => ⟨[(2, .bptr 0 0), (3, .bptr 1 0), (5, .val (.int .i64 i))], [.cells .var (oldL (tFct.q f)), .cells .var (oldL (tFct.q g))], []⟩) (fun i => i ≤ f.2.length ∧ i ≤ g.2.length ∧ cmpArgs (f.2.drop i) (g.2.drop i) = cmpF f g) (fun i => f.2.length - i) ⟨0, ⟨Nat.zero_le _, Nat.zero_le _, by unfold cmpF; rw [if_pos h1]; rfl⟩, ?_⟩ (fun i hi => ?_)
  · repeat' first
      | exact trivial | refine Weak.mk ?_ ?_ ?_ ?_ (Or.inl (Nat.le_of_ble_eq_true rfl)) | refine And.intro ?_ ?_ | with_reducible rfl | exact Nat.le_of_ble_eq_true rfl | refine AV.int_congr ?_ | (apply rfl)
  obtain ⟨hi1, hi2, hi3⟩ := hi
  repeat' first
    | (conv => whnf
       first | refine Need.mk (fun h => h) ?_ | refine Need.mk rfl ?_ | refine Ix.strsF rfl ?_ | refine Fork.dec (fun _ => ?_) (fun _ => ?_) | refine Fork.bne (fun _ => ?_) (fun _ => ?_) | refine Fork.mk (fun _ => ?_) (fun _ => ?_) | refine Round.mk ?_ | refine LitO.own rfl ?_ | refine FinVal.keep ?_ | refine Final.mk ?_ rfl | refine AQCall.mkA _ _ (fun hg => sCompareAtoms.ret _ _ ?_ ?_) rfl ?_)
    | refine AV.int_congr ?_
  all_goals try simp only [length_rows, length_strs, length_oldLL, List.length_map, Int.toNat_natCast] at *
  · simp only [Bool.and_eq_true, decide_eq_true_eq] at *
    have := str_le (l := f.2) (i := i) (by omega); omega
  · simp only [Bool.and_eq_true, decide_eq_true_eq] at *
    have := str_le (l := g.2) (i := i) (by omega); omega
  · rename_i h2 h3
    simp only [Bool.and_eq_true, decide_eq_true_eq] at h3
    rw [← hi3, cmpArgs_drop (by omega) (by omega), if_pos h2]
  · rename_i h2 h3
    simp only [Bool.and_eq_true, decide_eq_true_eq] at h3
    refine ⟨i + 1, ⟨by omega, by omega, ?_⟩, ?_, by omega⟩
    · rw [cmpArgs_drop (by omega) (by omega), if_neg (by simpa using h2)] at hi3; exact hi3
    · repeat' first
        | exact trivial | refine Weak.mk ?_ ?_ ?_ ?_ (Or.inl (Nat.le_of_ble_eq_true rfl)) | refine And.intro ?_ ?_ | with_reducible rfl | exact Nat.le_of_ble_eq_true rfl | refine AV.int_congr ?_ | (apply rfl)
      rw [wrap64 (by omega) (by omega)]; rfl
  all_goals rename_i h2
  all_goals simp only [Bool.and_eq_false_iff, decide_eq_false_iff_not] at *
  all_goals rw [← hi3, cmpArgs_end (by rw [List.drop_eq_nil_iff, List.drop_eq_nil_iff]; omega)]
  all_goals simp only [List.length_drop]
  all_goals ((repeat' split) <;> omega)
end Go.Proofs.Ytkbblglbbfdnpaa
namespace Go.Proofs.Ytkbblglbbfdnpaa
open Abs
theorem sIsVar.ret (x : Str) (hx : x.length ≤ 1048576) : sIsVar.Ret [.str x] (.val (.bool (varF x))) [] := by
  refine sIsVar.of rfl ?_
  repeat' first
    | (conv => whnf
       first | refine Need.mk (fun h => h) ?_ | refine Need.mk rfl ?_ | refine Need.fin ?_ | refine LitO.own rfl ?_ | refine FinVal.keep ?_ | refine Final.mk ?_ rfl | refine AGCall.mkA _ _ (fun hg => sIsAtom.ret _ ?_) rfl ?_)
    | refine AV.bool_congr ?_
  · simp; omega
  · simp [varF]
def hasP (x p : Str) : Bool := decide ((p.length : Int) ≤ x.length) && x.take p.length == p
def cutP (x p : Str) : Str := if hasP x p then x.drop p.length else x
theorem slHasPrefix.ret (x p : Str) : slHasPrefix.Ret [.str x, .str p] (.val (.bool (hasP x p))) [] := by
  refine slHasPrefix.of rfl ?_
  repeat' first
    | (conv => whnf
       first | refine Need.mk (fun h => h) ?_ | refine Need.mk rfl ?_ | refine Need.fin ?_ | refine LitO.own rfl ?_ | refine FinVal.keep ?_ | refine Final.mk rfl rfl)
  all_goals simp [hasP]
theorem slCutPrefix.ret (x p : Str) : slCutPrefix.Ret [.str x, .str p] (.tup [.str (cutP x p), .val (.bool (hasP x p))]) [] := by
  refine slCutPrefix.of rfl ?_
  repeat' first
    | (conv => whnf
       first | refine Need.mk ?_ ?_ | refine Fork.neg (fun _ => ?_) (fun _ => ?_) | refine FinVal.keep ?_ | refine Final.mk ?_ rfl | refine ACall.scalA _ _ (slHasPrefix.ret _ _) rfl ?_)
  · rename_i h; simp [cutP, h]
  all_goals first
    | (rename_i h; simp only [hasP, Bool.and_eq_true, decide_eq_true_eq] at h; simp; omega)
    | (rename_i h; simp [cutP, h]; done)
    | (rename_i h; simp only [hasP, Bool.and_eq_true, decide_eq_true_eq] at h; omega)
theorem cutPrefix.ret (x p : Str) : cutPrefix.Ret [.str x, .str p] (.tup [.str (cutP x p), .val (.bool (hasP x p))]) [] := by
  refine cutPrefix.of rfl ?_
  repeat' first
    | (conv => whnf
       first | refine FinVal.keep ?_ | refine Final.mk rfl rfl | refine ACall.scalA _ _ (slCutPrefix.ret _ _) rfl ?_)
theorem var_eq (x : Str) : (hasP x [63] && atomF (cutP x [63])) = varF x := by
  match x with
  | [] => rfl
  | [c] =>
    have : varF [c] = false := by simp [varF]
    rw [this]
    cases h : hasP [c] [63] with
    | false => rfl
    | true => simp [cutP, h, atomF]
  | c :: d :: x =>
    by_cases hc : c = 63
    · subst hc
      have h : hasP (63 :: d :: x) [63] = true := by simp [hasP]; omega
      simp [h, cutP, varF]; omega
    · have h : hasP (c :: d :: x) [63] = false := by simp [hasP, hc]
      have h2 : ¬ (c.toNat : Int) = 63 := fun e => hc (by
        have : c.toNat = 63 := by omega
        rw [← UInt8.ofNat_toNat (x := c), this]; rfl)
      simp [h, varF, h2]
theorem pIsVar.ret (x : Str) (hx : x.length ≤ 1048576) : pIsVar.Ret [.str x] (.val (.bool (varF x))) [] := by
  refine pIsVar.of rfl ?_
  repeat' first
    | (conv => whnf
       first | refine Need.mk (fun h => h) ?_ | refine FinVal.keep ?_ | refine Final.mk ?_ rfl | refine AGCall.mkA _ _ (fun hg => pIsAtom.ret _ ?_) rfl ?_ | refine ACall.scalA _ _ (cutPrefix.ret _ _) rfl ?_)
    | refine AV.bool_congr ?_
  · simp only [cutP]; split <;> simp <;> omega
  · exact var_eq x
theorem sIsTerm.ret (x : Str) (hx : x.length ≤ 1048576) : sIsTerm.Ret [.str x] (.val (.bool (atomF x || varF x))) [] := by
  refine sIsTerm.of rfl ?_
  repeat' first
    | (conv => whnf
       first | refine Need.mk (fun h => h) ?_ | refine FinVal.keep ?_ | refine Final.mk rfl rfl | refine ACall.scalA _ _ (sIsAtom.ret _ ?_) rfl ?_ | refine AGCall.mkA _ _ (fun hg => sIsVar.ret _ ?_) rfl ?_)
  all_goals exact hx
theorem pIsTerm.ret (x : Str) (hx : x.length ≤ 1048576) : pIsTerm.Ret [.str x] (.val (.bool (atomF x || varF x))) [] := by
  refine pIsTerm.of rfl ?_
  repeat' first
    | (conv => whnf
       first | refine Need.mk (fun h => h) ?_ | refine FinVal.keep ?_ | refine Final.mk rfl rfl | refine ACall.scalA _ _ (pIsAtom.ret _ ?_) rfl ?_ | refine AGCall.mkA _ _ (fun hg => pIsVar.ret _ ?_) rfl ?_)
  all_goals exact hx
end Go.Proofs.Ytkbblglbbfdnpaa
namespace Go.Proofs.Ytkbblglbbfdnpaa
open Abs
abbrev VPattern := Str × List Str
instance : DecidableEq VPattern := instDecidableEqProd
def tPattern : Ty VPattern := Ty.pair Ty.str tStrs
end Go.Proofs.Ytkbblglbbfdnpaa
namespace Go.Proofs.Ytkbblglbbfdnpaa
open Abs
def sIsPattern.code : ACode := (.seq (.region false [s 1 (.box (t 0)), s 2 (.mv (.const (.bool false)))]) (.seq (.seq (.region false [s 3 (.mv (.const (.int .i64 0)))]) (.block 0 (.loop (.seq (.seq (.region false [s 4 (.mv (t 3)), s 5 (.fadr 1 (t 1)), s 6 (.load false 1 (t 5)), s 7 (.len false (t 6)), s 8 (.bin .lss (t 4) (t 7))]) (.cond (t 8) .skip (.exit 0))) (.seq (.block 1 (.seq (.region false [s 11 (.fadr 1 (t 1)), s 12 (.load false 1 (t 11)), s 13 (.mv (t 3)), s 14 (.iadr 1 (t 12) (t 13)), s 15 (.load false 1 (t 14)), s 16 (.call 68 [(t 15)]), s 17 (.not (t 16))]) (.cond (t 17) (.seq (.region false [s 2 (.mv (.const (.bool false)))]) .ret) .skip))) (.region false [s 9 (.mv (t 3)), s 10 (.bin .add (t 9) (.const (.int .i64 1))), s 3 (.mv (t 10))])))))) (.seq (.region false [s 18 (.fadr 0 (t 1)), s 19 (.load false 1 (t 18)), s 20 (.call 69 [(t 19)]), s 21 (.mv (t 20)), g 21 true 22 (.fadr 1 (t 1)), g 21 true 23 (.load false 1 (t 22)), g 21 true 24 (.len false (t 23)), g 21 true 25 (.bin .leq (t 24) (.const (.int .i64 3))), s 26 (.and (t 21) (t 25)), s 2 (.mv (t 26))]) .ret)))
def sIsPattern.keep : List Nat := [0, 1, 2, 3]
def sIsPattern.res : List RRes := [.tmp 2]
theorem sIsPattern.of {mo : Bool} {args : List AV} {r : AV} {frs : Fr} (hn : Nat.ble args.length Try.f30.ntmps = true) (h : aCode (Kn mo Try.prog) sIsPattern.keep 0 sIsPattern.code (doneK sIsPattern.res r frs) ⟨argEnv 0 args, [], []⟩) : Abs.Ret mo Try.prog 30 args r frs :=
  Abs.Ret.of_ir Try.func30 rfl (by kernel_rfl) (Nat.le_of_ble_eq_true hn) (by kernel_rfl) (by kernel_rfl) h
abbrev sIsPattern.Ret (args : List AV) (r : AV) (frs : Fr) : Prop := Abs.Ret true Try.prog 30 args r frs
def pIsPattern.code : ACode := (.seq (.region false [s 1 (.box (t 0)), s 2 (.mv (.const (.bool false)))]) (.seq (.region false [s 3 (.fadr 0 (t 1)), s 4 (.load false 1 (t 3)), s 5 (.fadr 1 (t 1)), s 6 (.load false 1 (t 5)), s 7 (.call 74 [(t 4), (t 6), (.func 90)]), s 2 (.mv (t 7))]) .ret))
def pIsPattern.keep : List Nat := [0, 1, 2]
def pIsPattern.res : List RRes := [.tmp 2]
theorem pIsPattern.of {mo : Bool} {args : List AV} {r : AV} {frs : Fr} (hn : Nat.ble args.length Try.f51.ntmps = true) (h : aCode (Kn mo Try.prog) pIsPattern.keep 0 pIsPattern.code (doneK pIsPattern.res r frs) ⟨argEnv 0 args, [], []⟩) : Abs.Ret mo Try.prog 51 args r frs :=
  Abs.Ret.of_ir Try.func51 rfl (by kernel_rfl) (Nat.le_of_ble_eq_true hn) (by kernel_rfl) (by kernel_rfl) h
abbrev pIsPattern.Ret (args : List AV) (r : AV) (frs : Fr) : Prop := Abs.Ret true Try.prog 51 args r frs
def sIsBinding.code : ACode := (.seq (.region false [s 2 (.mv (.const (.bool false)))]) (.seq (.seq (.region false [s 3 (.mv (.const (.int .i64 0)))]) (.block 0 (.loop (.seq (.seq (.region false [s 4 (.mv (t 3)), s 5 (.mv (t 0)), s 6 (.len false (t 5)), s 7 (.bin .lss (t 4) (t 6))]) (.cond (t 7) .skip (.exit 0))) (.seq (.block 1 (.seq (.region true [s 10 (.mv (t 0)), s 11 (.mv (t 3)), s 12 (.iadr 2 (t 10) (t 11)), s 13 (.fadr 0 (t 12)), s 14 (.load false 1 (t 13)), s 15 (.call 70 [(t 14)]), s 16 (.not (t 15)), s 17 (.mv (t 16)), g 17 false 18 (.mv (t 0)), g 17 false 19 (.mv (t 3)), g 17 false 20 (.iadr 2 (t 18) (t 19)), g 17 false 21 (.fadr 1 (t 20)), g 17 false 22 (.load false 1 (t 21)), g 17 false 23 (.call 57 [(t 22)]), g 17 false 24 (.not (t 23)), s 25 (.or (t 17) (t 24)), s 26 (.mv (t 25)), g 26 false 27 (.mv (t 3)), g 26 false 28 (.bin .gtr (t 27) (.const (.int .i64 0))), g 26 false 29 (.mv (t 28)), g 29 true 30 (.mv (t 0)), g 29 true 31 (.mv (t 3)), g 29 true 32 (.bin .sub (t 31) (.const (.int .i64 1))), g 29 true 33 (.iadr 2 (t 30) (t 32)), g 29 true 34 (.fadr 0 (t 33)), g 29 true 35 (.load false 1 (t 34)), g 29 true 36 (.mv (t 0)), g 29 true 37 (.mv (t 3)), g 29 true 38 (.iadr 2 (t 36) (t 37)), g 29 true 39 (.fadr 0 (t 38)), g 29 true 40 (.load false 1 (t 39)), g 29 true 41 (.bin .geq (t 35) (t 40)), g 26 false 42 (.and (t 29) (t 41)), s 43 (.or (t 26) (t 42))]) (.cond (t 43) (.seq (.region false [s 2 (.mv (.const (.bool false)))]) .ret) .skip))) (.region false [s 8 (.mv (t 3)), s 9 (.bin .add (t 8) (.const (.int .i64 1))), s 3 (.mv (t 9))])))))) (.seq (.region false [s 44 (.mv (t 0)), s 45 (.len false (t 44)), s 46 (.bin .leq (t 45) (.const (.int .i64 6))), s 2 (.mv (t 46))]) .ret)))
def sIsBinding.keep : List Nat := [0, 2, 3]
def sIsBinding.res : List RRes := [.tmp 2]
theorem sIsBinding.of {mo : Bool} {args : List AV} {r : AV} {frs : Fr} (hn : Nat.ble args.length Try.f31.ntmps = true) (h : aCode (Kn mo Try.prog) sIsBinding.keep 0 sIsBinding.code (doneK sIsBinding.res r frs) ⟨argEnv 0 args, [], []⟩) : Abs.Ret mo Try.prog 31 args r frs :=
  Abs.Ret.of_ir Try.func31 rfl (by kernel_rfl) (Nat.le_of_ble_eq_true hn) (by kernel_rfl) (by kernel_rfl) h
abbrev sIsBinding.Ret (args : List AV) (r : AV) (frs : Fr) : Prop := Abs.Ret true Try.prog 31 args r frs
def pIsBinding.code : ACode := (.seq (.region false [s 2 (.mv (.const (.bool false)))]) (.seq (.seq (.region false [s 5 (.mv (t 0)), s 6 (.len false (t 5)), s 7 (.bin .gtr (t 6) (.const (.int .i64 6)))]) (.cond (t 7) (.seq (.region false [s 2 (.mv (.const (.bool false)))]) .ret) .skip)) (.seq (.seq (.region false [s 8 (.mv (t 0)), s 9 (.len false (t 8)), s 10 (.mv (.const (.int .i64 0)))]) (.block 0 (.loop (.seq (.region false [s 11 (.bin .lss (t 10) (t 9))]) (.seq (.cond (t 11) .skip (.exit 0)) (.seq (.block 1 (.seq (.region false [s 12 (.mv (t 10)), s 13 (.iadr 2 (t 8) (t 10)), s 14 (.load true 2 (t 13)), s 4 (.alloc [(.string (.mk (.mk []))), (.string (.mk (.mk [])))]), s 3 (.mv (t 12)), ⟨none, none, (.store 2 (t 4) (t 14))⟩]) (.seq (.region true [s 15 (.fadr 0 (t 4)), s 16 (.load false 1 (t 15)), s 17 (.call 61 [(t 16)]), s 18 (.not (t 17)), s 19 (.mv (t 18)), g 19 false 20 (.fadr 1 (t 4)), g 19 false 21 (.load false 1 (t 20)), g 19 false 22 (.call 62 [(t 21)]), g 19 false 23 (.not (t 22)), s 24 (.or (t 19) (t 23)), s 25 (.mv (t 24)), g 25 false 26 (.mv (t 3)), g 25 false 27 (.bin .gtr (t 26) (.const (.int .i64 0))), g 25 false 28 (.mv (t 27)), g 28 true 29 (.mv (t 0)), g 28 true 30 (.mv (t 3)), g 28 true 31 (.bin .sub (t 30) (.const (.int .i64 1))), g 28 true 32 (.iadr 2 (t 29) (t 31)), g 28 true 33 (.fadr 0 (t 32)), g 28 true 34 (.load false 1 (t 33)), g 28 true 35 (.fadr 0 (t 4)), g 28 true 36 (.load false 1 (t 35)), g 28 true 37 (.bin .geq (t 34) (t 36)), g 25 false 38 (.and (t 28) (t 37)), s 39 (.or (t 25) (t 38))]) (.cond (t 39) (.seq (.region false [s 2 (.mv (.const (.bool false)))]) .ret) .skip)))) (.region false [s 40 (.bin .add (t 10) (.const (.int .i64 1))), s 10 (.mv (t 40))]))))))) (.seq (.region false [s 2 (.mv (.const (.bool true)))]) .ret))))
def pIsBinding.keep : List Nat := [0, 2, 3, 4, 8, 9, 10, 11]
def pIsBinding.res : List RRes := [.tmp 2]
theorem pIsBinding.of {mo : Bool} {args : List AV} {r : AV} {frs : Fr} (hn : Nat.ble args.length Try.f24.ntmps = true) (h : aCode (Kn mo Try.prog) pIsBinding.keep 0 pIsBinding.code (doneK pIsBinding.res r frs) ⟨argEnv 0 args, [], []⟩) : Abs.Ret mo Try.prog 24 args r frs :=
  Abs.Ret.of_ir Try.func24 rfl (by kernel_rfl) (Nat.le_of_ble_eq_true hn) (by kernel_rfl) (by kernel_rfl) h
abbrev pIsBinding.Ret (args : List AV) (r : AV) (frs : Fr) : Prop := Abs.Ret true Try.prog 24 args r frs
def sValueOf.code : ACode := (.seq (.region false [s 4 (.mv (.const (.string (.mk #[])))), s 5 (.mv (.const (.bool false)))]) (.seq (.seq (.region false [s 7 (.mv (t 1)), s 8 (.call 57 [(t 7)])]) (.cond (t 8) (.seq (.region false [s 9 (.mv (t 1)), s 4 (.mv (t 9)), s 5 (.mv (.const (.bool true)))]) .ret) .skip)) (.seq (.seq (.region false [s 6 (.mv (.const (.int .i64 0)))]) (.block 0 (.loop (.seq (.seq (.region false [s 10 (.mv (t 6)), s 11 (.mv (t 0)), s 12 (.len false (t 11)), s 13 (.bin .lss (t 10) (t 12))]) (.cond (t 13) .skip (.exit 0))) (.seq (.block 1 (.seq (.region false [s 16 (.mv (t 0)), s 17 (.mv (t 6)), s 18 (.iadr 2 (t 16) (t 17)), s 19 (.fadr 0 (t 18)), s 20 (.load false 1 (t 19)), s 21 (.mv (t 1)), s 22 (.bin .eql (t 20) (t 21)), s 23 (.mv (t 22)), g 23 true 24 (.mv (t 1)), g 23 true 25 (.call 70 [(t 24)]), s 26 (.and (t 23) (t 25))]) (.cond (t 26) (.seq (.region false [s 27 (.mv (t 0)), s 28 (.mv (t 6)), s 29 (.iadr 2 (t 27) (t 28)), s 30 (.fadr 1 (t 29)), s 31 (.load false 1 (t 30)), s 4 (.mv (t 31)), s 5 (.mv (.const (.bool true)))]) .ret) .skip))) (.region false [s 14 (.mv (t 6)), s 15 (.bin .add (t 14) (.const (.int .i64 1))), s 6 (.mv (t 15))])))))) (.seq (.region false [s 4 (.mv (.const (.string (.mk #[])))), s 5 (.mv (.const (.bool false)))]) .ret))))
def sValueOf.keep : List Nat := [0, 1, 4, 5, 6]
def sValueOf.res : List RRes := [.tmp 4, .tmp 5]
theorem sValueOf.ofS {mo : Bool} {args : List AV} {r : AV} (hr : isScalR r = true) (hn : Nat.ble args.length Try.f49.ntmps = true) (h : aCode (Kn mo Try.prog) sValueOf.keep 0 sValueOf.code (doneS sValueOf.res r) ⟨argEnv 0 args, [], []⟩) : Abs.Ret mo Try.prog 49 args r [] :=
  Abs.Ret.of_irS hr Try.func49 rfl (by kernel_rfl) (Nat.le_of_ble_eq_true hn) (by kernel_rfl) (by kernel_rfl) h
abbrev sValueOf.Ret (args : List AV) (r : AV) (frs : Fr) : Prop := Abs.Ret true Try.prog 49 args r frs
def pValueOf.code : ACode := (.seq (.region false [s 4 (.mv (.const (.string (.mk #[])))), s 5 (.mv (.const (.bool false)))]) (.seq (.seq (.region false [s 8 (.mv (t 1)), s 9 (.call 62 [(t 8)])]) (.cond (t 9) (.seq (.region false [s 10 (.mv (t 1)), s 4 (.mv (t 10)), s 5 (.mv (.const (.bool true)))]) .ret) .skip)) (.seq (.seq (.region false [s 11 (.mv (t 1)), s 12 (.call 61 [(t 11)]), s 13 (.not (t 12))]) (.cond (t 13) (.seq (.region false [s 4 (.mv (.const (.string (.mk #[])))), s 5 (.mv (.const (.bool false)))]) .ret) .skip)) (.seq (.seq (.region false [s 14 (.mv (t 0)), s 15 (.len false (t 14)), s 16 (.mv (.const (.int .i64 0)))]) (.block 0 (.loop (.seq (.region false [s 17 (.bin .lss (t 16) (t 15))]) (.seq (.cond (t 17) .skip (.exit 0)) (.seq (.block 1 (.seq (.region false [s 18 (.iadr 2 (t 14) (t 16)), s 19 (.load true 2 (t 18)), s 7 (.alloc [(.string (.mk (.mk []))), (.string (.mk (.mk [])))]), ⟨none, none, (.store 2 (t 7) (t 19))⟩]) (.seq (.region false [s 20 (.fadr 0 (t 7)), s 21 (.load false 1 (t 20)), s 22 (.mv (t 1)), s 23 (.bin .eql (t 21) (t 22))]) (.cond (t 23) (.seq (.region false [s 24 (.fadr 1 (t 7)), s 25 (.load false 1 (t 24)), s 4 (.mv (t 25)), s 5 (.mv (.const (.bool true)))]) .ret) .skip)))) (.region false [s 26 (.bin .add (t 16) (.const (.int .i64 1))), s 16 (.mv (t 26))]))))))) (.seq (.region false [s 4 (.mv (.const (.string (.mk #[])))), s 5 (.mv (.const (.bool false)))]) .ret)))))
def pValueOf.keep : List Nat := [0, 1, 4, 5, 7, 14, 15, 16, 17]
def pValueOf.res : List RRes := [.tmp 4, .tmp 5]
theorem pValueOf.ofS {mo : Bool} {args : List AV} {r : AV} (hr : isScalR r = true) (hn : Nat.ble args.length Try.f26.ntmps = true) (h : aCode (Kn mo Try.prog) pValueOf.keep 0 pValueOf.code (doneS pValueOf.res r) ⟨argEnv 0 args, [], []⟩) : Abs.Ret mo Try.prog 26 args r [] :=
  Abs.Ret.of_irS hr Try.func26 rfl (by kernel_rfl) (Nat.le_of_ble_eq_true hn) (by kernel_rfl) (by kernel_rfl) h
abbrev pValueOf.Ret (args : List AV) (r : AV) (frs : Fr) : Prop := Abs.Ret true Try.prog 26 args r frs
def pSamePattern.code : ACode := (.seq (.region false [s 2 (.box (t 0)), s 3 (.box (t 1)), s 4 (.mv (.const (.bool false)))]) (.seq (.region false [s 5 (.fadr 0 (t 2)), s 6 (.load false 1 (t 5)), s 7 (.fadr 0 (t 3)), s 8 (.load false 1 (t 7)), s 9 (.bin .eql (t 6) (t 8)), s 10 (.mv (t 9)), g 10 true 11 (.fadr 1 (t 2)), g 10 true 12 (.load false 1 (t 11)), g 10 true 13 (.fadr 1 (t 3)), g 10 true 14 (.load false 1 (t 13)), g 10 true 15 (.call 79 [(t 12), (t 14)]), s 16 (.and (t 10) (t 15)), s 4 (.mv (t 16))]) .ret))
def pSamePattern.keep : List Nat := [0, 1, 2, 3, 4]
def pSamePattern.res : List RRes := [.tmp 4]
theorem pSamePattern.of {mo : Bool} {args : List AV} {r : AV} {frs : Fr} (hn : Nat.ble args.length Try.f126.ntmps = true) (h : aCode (Kn mo Try.prog) pSamePattern.keep 0 pSamePattern.code (doneK pSamePattern.res r frs) ⟨argEnv 0 args, [], []⟩) : Abs.Ret mo Try.prog 126 args r frs :=
  Abs.Ret.of_ir Try.func126 rfl (by kernel_rfl) (Nat.le_of_ble_eq_true hn) (by kernel_rfl) (by kernel_rfl) h
abbrev pSamePattern.Ret (args : List AV) (r : AV) (frs : Fr) : Prop := Abs.Ret true Try.prog 126 args r frs
def pMatchFact.code : ACode := (.seq (.region false [s 3 (.box (t 0)), s 4 (.box (t 1)), s 6 (.mv (.const (.slice none 0 0))), s 7 (.mv (.const (.bool false)))]) (.seq (.seq (.region false [s 9 (.fadr 0 (t 3)), s 10 (.load false 1 (t 9)), s 11 (.fadr 0 (t 4)), s 12 (.load false 1 (t 11)), s 13 (.bin .neq (t 10) (t 12)), s 14 (.mv (t 13)), g 14 false 15 (.load true 2 (t 3)), g 14 false 16 (.call 51 [(t 15)]), g 14 false 17 (.not (t 16)), s 18 (.or (t 14) (t 17)), s 19 (.mv (t 18)), g 19 false 20 (.load true 2 (t 4)), g 19 false 21 (.call 36 [(t 20)]), g 19 false 22 (.not (t 21)), s 23 (.or (t 19) (t 22)), s 24 (.mv (t 23)), g 24 false 25 (.mv (t 2)), g 24 false 26 (.call 24 [(t 25)]), g 24 false 27 (.not (t 26)), s 28 (.or (t 24) (t 27))]) (.cond (t 28) (.seq (.region false [s 29 (.bslice 50 2 true []), s 6 (.mv (t 29)), s 7 (.mv (.const (.bool false)))]) .ret) .skip)) (.seq (.region false [s 30 (.mv (t 2)), s 31 (.call 52 [(t 30)]), s 8 (.mv (t 31))]) (.seq (.seq (.region false [s 32 (.fadr 1 (t 3)), s 33 (.load false 1 (t 32)), s 34 (.fadr 1 (t 4)), s 35 (.load false 1 (t 34)), s 36 (.mv (t 8)), s 37 (.call 53 [(t 33), (t 35), (t 36)]), s 38 (.not (t 37)), s 39 (.mv (t 38)), g 39 false 40 (.mv (t 8)), g 39 false 41 (.mlen (t 40)), g 39 false 42 (.bin .gtr (t 41) (.const (.int .i64 6))), s 43 (.or (t 39) (t 42))]) (.cond (t 43) (.seq (.region false [s 44 (.bslice 50 2 true []), s 6 (.mv (t 44)), s 7 (.mv (.const (.bool false)))]) .ret) .skip)) (.seq (.region false [s 45 (.mv (t 8)), s 46 (.call 54 [(t 45)]), s 6 (.mv (t 46)), s 7 (.mv (.const (.bool true)))]) .ret)))))
def pMatchFact.keep : List Nat := [0, 1, 2, 3, 4, 6, 7, 8]
def pMatchFact.res : List RRes := [.tmp 6, .tmp 7]
def pisTuple.code : ACode := (.seq (.region false [s 6 (.mv (.const (.bool false)))]) (.seq (.seq (.region false [s 9 (.mv (t 0)), s 10 (.call 107 [(t 9)]), s 11 (.not (t 10)), s 12 (.mv (t 11)), g 12 false 13 (.mv (t 1)), g 12 false 14 (.len false (t 13)), g 12 false 15 (.bin .gtr (t 14) (.const (.int .i64 3))), s 16 (.or (t 12) (t 15))]) (.cond (t 16) (.seq (.region false [s 6 (.mv (.const (.bool false)))]) .ret) .skip)) (.seq (.seq (.region false [s 17 (.mv (t 1)), s 18 (.len false (t 17)), s 19 (.mv (.const (.int .i64 0)))]) (.block 0 (.loop (.seq (.region false [s 20 (.bin .lss (t 19) (t 18))]) (.seq (.cond (t 20) .skip (.exit 0)) (.seq (.block 1 (.seq (.region false [s 21 (.iadr 1 (t 17) (t 19)), s 22 (.load false 1 (t 21)), s 8 (.mv (t 22))]) (.seq (.region false [s 23 (.mv (t 2)), s 24 (.mv (t 8)), s 25 (.callv (t 23) [(t 24)]), s 26 (.not (t 25))]) (.cond (t 26) (.seq (.region false [s 6 (.mv (.const (.bool false)))]) .ret) .skip)))) (.region false [s 27 (.bin .add (t 19) (.const (.int .i64 1))), s 19 (.mv (t 27))]))))))) (.seq (.region false [s 6 (.mv (.const (.bool true)))]) .ret))))
def pisTuple.keep : List Nat := [0, 1, 2, 6, 8, 17, 18, 19, 20]
def pisTuple.res : List RRes := [.tmp 6]
theorem pisTuple.of {mo : Bool} {args : List AV} {r : AV} {frs : Fr} (hn : Nat.ble args.length Try.f74.ntmps = true) (h : aCode (Kn mo Try.prog) pisTuple.keep 0 pisTuple.code (doneK pisTuple.res r frs) ⟨argEnv 0 args, [], []⟩) : Abs.Ret mo Try.prog 74 args r frs :=
  Abs.Ret.of_ir Try.func74 rfl (by kernel_rfl) (Nat.le_of_ble_eq_true hn) (by kernel_rfl) (by kernel_rfl) h
abbrev pisTuple.Ret (args : List AV) (r : AV) (frs : Fr) : Prop := Abs.Ret true Try.prog 74 args r frs
def pmapOfPairs.code : ACode := (.seq (.region false [s 2 (.mv (.const (.map none)))]) (.seq (.region false [s 6 .mmap, s 3 (.mv (t 6))]) (.seq (.seq (.region false [s 7 (.mv (t 0)), s 8 (.len false (t 7)), s 9 (.mv (.const (.int .i64 0)))]) (.block 0 (.loop (.seq (.region false [s 10 (.bin .lss (t 9) (t 8))]) (.seq (.cond (t 10) .skip (.exit 0)) (.seq (.block 1 (.seq (.region false [s 11 (.iadr 2 (t 7) (t 9)), s 12 (.load true 2 (t 11)), s 5 (.alloc [(.string (.mk (.mk []))), (.string (.mk (.mk [])))]), ⟨none, none, (.store 2 (t 5) (t 12))⟩]) (.region false [s 13 (.mv (t 3)), s 14 (.fadr 0 (t 5)), s 15 (.load false 1 (t 14)), s 16 (.fadr 1 (t 5)), s 17 (.load false 1 (t 16)), ⟨none, none, (.mput (t 13) (t 15) (t 17))⟩]))) (.region false [s 18 (.bin .add (t 9) (.const (.int .i64 1))), s 9 (.mv (t 18))]))))))) (.seq (.region false [s 19 (.mv (t 3)), s 2 (.mv (t 19))]) .ret))))
def pmapOfPairs.keep : List Nat := [0, 2, 3, 5, 7, 8, 9, 10]
def pmapOfPairs.res : List RRes := [.tmp 2]
theorem pmapOfPairs.ofL {mo : Bool} {b0 : List ABox} {args : List AV} {Φ : AV → List ABox → Fr → Prop} (hd : noDead b0 = true) (hn : Nat.ble args.length Try.f52.ntmps = true) (h : aCode (Kn mo Try.prog) pmapOfPairs.keep b0.length pmapOfPairs.code (doneL pmapOfPairs.res Φ) ⟨argEnv 0 args, b0, []⟩) : Abs.Lent mo Try.prog 52 b0 args Φ :=
  Abs.Lent.of_ir hd Try.func52 rfl (by kernel_rfl) (Nat.le_of_ble_eq_true hn) (by kernel_rfl) (by kernel_rfl) h
abbrev pmapOfPairs.Lent (b0 : List ABox) (args : List AV) (Φ : AV → List ABox → Fr → Prop) : Prop := Abs.Lent true Try.prog 52 b0 args Φ
def pturnInto.code : ACode := (.seq (.region false [s 6 (.mv (.const (.bool false)))]) (.seq (.seq (.region false [s 11 (.mv (t 0)), s 12 (.len false (t 11)), s 13 (.mv (t 1)), s 14 (.len false (t 13)), s 15 (.bin .neq (t 12) (t 14))]) (.cond (t 15) (.seq (.region false [s 6 (.mv (.const (.bool false)))]) .ret) .skip)) (.seq (.seq (.region false [s 16 (.mv (t 0)), s 17 (.len false (t 16)), s 18 (.mv (.const (.int .i64 0)))]) (.block 0 (.loop (.seq (.region false [s 19 (.bin .lss (t 18) (t 17))]) (.seq (.cond (t 19) .skip (.exit 0)) (.seq (.block 1 (.seq (.region false [s 20 (.mv (t 18)), s 21 (.iadr 1 (t 16) (t 18)), s 22 (.load false 1 (t 21)), s 7 (.mv (t 20)), s 8 (.mv (t 22))]) (.seq (.region false [s 24 (.mv (t 2)), s 25 (.mv (t 8)), s 26 (.lookup true (t 24) (t 25)), s 23 (.mv (t 26)), s 27 (.extract (t 23) 0), s 28 (.extract (t 23) 1), s 9 (.mv (t 27)), s 10 (.mv (t 28))]) (.seq (.block 2 (.seq (.region false [s 30 (.mv (t 8)), s 31 (.call 61 [(t 30)]), s 32 (.not (t 31)), s 29 (.mv (t 32))]) (.cond (t 29) (.region false [s 33 (.mv (t 8)), s 9 (.mv (t 33))]) (.seq (.region false [s 35 (.mv (t 10)), s 36 (.not (t 35)), s 34 (.mv (t 36))]) (.cond (t 34) (.seq (.region false [s 37 (.mv (t 1)), s 38 (.mv (t 7)), s 39 (.iadr 1 (t 37) (t 38)), s 40 (.load false 1 (t 39)), s 9 (.mv (t 40))]) (.region false [s 41 (.mv (t 2)), s 42 (.mv (t 8)), s 43 (.mv (t 9)), ⟨none, none, (.mput (t 41) (t 42) (t 43))⟩])) .skip))))) (.seq (.region false [s 44 (.mv (t 9)), s 45 (.mv (t 1)), s 46 (.mv (t 7)), s 47 (.iadr 1 (t 45) (t 46)), s 48 (.load false 1 (t 47)), s 49 (.bin .neq (t 44) (t 48))]) (.cond (t 49) (.seq (.region false [s 6 (.mv (.const (.bool false)))]) .ret) .skip)))))) (.region false [s 50 (.bin .add (t 18) (.const (.int .i64 1))), s 18 (.mv (t 50))]))))))) (.seq (.region false [s 6 (.mv (.const (.bool true)))]) .ret))))
def pturnInto.keep : List Nat := [0, 1, 2, 6, 7, 8, 9, 10, 16, 17, 18, 19]
def pturnInto.res : List RRes := [.tmp 6]
theorem pturnInto.ofL {mo : Bool} {b0 : List ABox} {args : List AV} {Φ : AV → List ABox → Fr → Prop} (hd : noDead b0 = true) (hn : Nat.ble args.length Try.f53.ntmps = true) (h : aCode (Kn mo Try.prog) pturnInto.keep b0.length pturnInto.code (doneL pturnInto.res Φ) ⟨argEnv 0 args, b0, []⟩) : Abs.Lent mo Try.prog 53 b0 args Φ :=
  Abs.Lent.of_ir hd Try.func53 rfl (by kernel_rfl) (Nat.le_of_ble_eq_true hn) (by kernel_rfl) (by kernel_rfl) h
abbrev pturnInto.Lent (b0 : List ABox) (args : List AV) (Φ : AV → List ABox → Fr → Prop) : Prop := Abs.Lent true Try.prog 53 b0 args Φ
def ppairsOfMap.code : ACode := (.seq (.region false [s 2 (.mv (.const (.slice none 0 0)))]) (.seq (.region false [s 6 (.bslice 50 2 true []), s 3 (.mv (t 6))]) (.seq (.seq (.region false [s 7 (.mv (t 0)), s 8 (.call 92 [(t 7)]), s 9 (.call 91 [(t 8)]), s 10 (.len false (t 9)), s 11 (.mv (.const (.int .i64 0)))]) (.block 0 (.loop (.seq (.region false [s 12 (.bin .lss (t 11) (t 10))]) (.seq (.cond (t 12) .skip (.exit 0)) (.seq (.block 1 (.seq (.region false [s 13 (.iadr 1 (t 9) (t 11)), s 14 (.load false 1 (t 13)), s 5 (.mv (t 14))]) (.region false [s 15 (.mv (t 3)), s 16 (.mv (t 5)), s 17 (.mv (t 0)), s 18 (.mv (t 5)), s 19 (.lookup false (t 17) (t 18)), s 20 (.build [(.string (.mk (.mk []))), (.string (.mk (.mk [])))] [(0, 1), (1, 1)] [(t 16), (t 19)]), s 21 (.bslice 50 2 false [(t 20)]), s 22 (.append 50 2 32 (t 15) (t 21)), s 3 (.mv (t 22))]))) (.region false [s 23 (.bin .add (t 11) (.const (.int .i64 1))), s 11 (.mv (t 23))]))))))) (.seq (.region false [s 24 (.mv (t 3)), s 2 (.mv (t 24))]) .ret))))
def ppairsOfMap.keep : List Nat := [0, 2, 3, 5, 9, 10, 11, 12]
def ppairsOfMap.res : List RRes := [.tmp 2]
theorem ppairsOfMap.ofL {mo : Bool} {b0 : List ABox} {args : List AV} {Φ : AV → List ABox → Fr → Prop} (hd : noDead b0 = true) (hn : Nat.ble args.length Try.f54.ntmps = true) (h : aCode (Kn mo Try.prog) ppairsOfMap.keep b0.length ppairsOfMap.code (doneL ppairsOfMap.res Φ) ⟨argEnv 0 args, b0, []⟩) : Abs.Lent mo Try.prog 54 b0 args Φ :=
  Abs.Lent.of_ir hd Try.func54 rfl (by kernel_rfl) (Nat.le_of_ble_eq_true hn) (by kernel_rfl) (by kernel_rfl) h
def slKeys.code : ACode := (.seq (.region false [s 1 (.box (t 0)), s 2 (.mv (.const .nilFunc))]) (.seq (.region false [s 3 (.clo 123 [] [(t 1)]), s 2 (.mv (t 3))]) .ret))
def slKeys.keep : List Nat := [0, 1, 2]
def slKeys.res : List RRes := [.tmp 2]
theorem slKeys.ofL {mo : Bool} {b0 : List ABox} {args : List AV} {Φ : AV → List ABox → Fr → Prop} (hd : noDead b0 = true) (hn : Nat.ble args.length Try.f92.ntmps = true) (h : aCode (Kn mo Try.prog) slKeys.keep b0.length slKeys.code (doneL slKeys.res Φ) ⟨argEnv 0 args, b0, []⟩) : Abs.Lent mo Try.prog 92 b0 args Φ :=
  Abs.Lent.of_ir hd Try.func92 rfl (by kernel_rfl) (Nat.le_of_ble_eq_true hn) (by kernel_rfl) (by kernel_rfl) h
abbrev slKeys.Lent (b0 : List ABox) (args : List AV) (Φ : AV → List ABox → Fr → Prop) : Prop := Abs.Lent true Try.prog 92 b0 args Φ
end Go.Proofs.Ytkbblglbbfdnpaa
namespace Go.Proofs.Ytkbblglbbfdnpaa
open Abs
def termF (x : Str) : Bool := atomF x || varF x
theorem allQ_no {q : Str → Bool} {x : List Str} {i : Nat} (hi : i < x.length) (h : q (x.getD i []) = false) : x.all q = false := by
  rw [List.all_eq_false]
  refine ⟨x.getD i [], ?_, by rw [h]; simp⟩
  simp [List.getD, hi]
theorem allQ_succ {q : Str → Bool} {x : List Str} {i : Nat} (hi : i < x.length) (h : (x.take i).all q = true) (hc : q (x.getD i []) = true) : (x.take (i + 1)).all q = true := by
  rw [take_succ' [] hi, List.all_append, h]; simpa using hc
def tupF (q : Str → Bool) (f : Fct) : Bool := nameF f.1 && decide ((f.2.length : Int) ≤ 3) && f.2.all q
abbrev isPatF (f : VPattern) : Bool := tupF termF f
theorem pisTuple.ret (q : Str → Bool) (F : Nat) (hq : ∀ s : Str, s.length ≤ 1048576 → Abs.Ret true Try.prog F [.str s] (.val (.bool (q s))) []) (r : Str) (l : List Str) (h : r.length + listSize Ty.str l ≤ 1048576) (hl : l.length ≤ 1048576) :
    pisTuple.Ret [.str r, .list none (strs l), .clo F [] []] (.val (.bool (tupF q (r, l)))) [] := by
  refine pisTuple.of rfl ?_
  repeat' first
    | (conv => whnf
       first | refine Need.mk (fun h => h) ?_ | refine Need.mk rfl ?_ | refine Fork.mk (fun _ => ?_) (fun _ => ?_) | refine LitO.own rfl ?_ | refine FinVal.keep ?_ | refine Final.mk ?_ rfl | refine ACall.scalA _ _ (pIsName.ret _ ?_) rfl ?_)
    | refine AV.bool_congr ?_
  · omega
  · rename_i h1
    simp only [length_strs] at h1
    unfold tupF
    cases hn : nameF r
    · simp
    · rw [hn] at h1
      have : ¬ (l.length : Int) ≤ 3 := by simp at h1; omega
      simp [this]
  rename_i h1
  simp only [length_strs] at h1
  have hn : nameF r = true := by revert h1; cases nameF r <;> simp
  have hl3 : (l.length : Int) ≤ 3 := by rw [hn] at h1; simp at h1; omega
  skip
  refine ALoop.mk Nat (fun i => ⟨[(0, .str r), (1, .list none (strs l)), (2, .clo F [] []), (17, .list none (strs l)), (18, .val (.int .i64 l.length)), (19, .val (.int .i64 i))], [], []⟩) (fun i => i ≤ l.length ∧ (l.take i).all q = true) (fun i => l.length - i) ⟨0, ⟨Nat.zero_le _, rfl⟩, ?_⟩ (fun i hi => ?_)
  · repeat' first
      | exact trivial | refine Weak.mk ?_ ?_ ?_ ?_ (Or.inl (Nat.le_of_ble_eq_true rfl)) | refine And.intro ?_ ?_ | with_reducible rfl | exact Nat.le_of_ble_eq_true rfl | refine AV.int_congr ?_ | refine AV.str_congr ?_ | refine AV.list_congr ?_ | (apply rfl)
    simp
  repeat' first
    | (conv => whnf
       first | refine Need.mk rfl ?_ | refine Ix.strsF rfl ?_ | refine Fork.dec (fun _ => ?_) (fun _ => ?_) | refine Fork.neg (fun _ => ?_) (fun _ => ?_) | refine Round.mk ?_ | refine LitO.own rfl ?_ | refine FinVal.keep ?_ | refine Final.mk ?_ rfl | refine ACall.scalA _ _ (hq _ ?_) rfl ?_)
    | refine AV.bool_congr ?_
  all_goals try simp only [length_rows, length_strs, length_oldLL, List.length_map, Int.toNat_natCast] at *
  · have := str_le (l := l) (i := i) (by omega); omega
  · rename_i h1 h2
    simp [tupF, allQ_no (by omega) h2]
  · rename_i h1 h2
    refine ⟨i + 1, ⟨by omega, allQ_succ (by omega) hi.2 h2⟩, ?_, by omega⟩
    repeat' first
      | exact trivial | refine Weak.mk ?_ ?_ ?_ ?_ (Or.inl (Nat.le_of_ble_eq_true rfl)) | refine And.intro ?_ ?_ | with_reducible rfl | exact Nat.le_of_ble_eq_true rfl | refine AV.int_congr ?_ | refine AV.str_congr ?_ | refine AV.list_congr ?_ | (apply rfl)
    rw [wrap64 (by omega) (by omega)]; rfl
  · have := hi.2
    rw [List.take_of_length_le (by omega)] at this
    simp [tupF, this, hn, hl3]
theorem pIsFact.ret (f : Fct) (h : tFct.size f ≤ 1048576) : pIsFact.Ret [.agg (oldL (tFct.q f))] (.val (.bool (isFactF f))) [] := by
  refine pIsFact.of rfl ?_
  rw [tFct_size, tStrs_size] at h
  have ht : pisTuple.Ret [.str f.1, .list none (strs f.2), .clo 62 [] []] (.val (.bool (isFactF f))) [] := pisTuple.ret atomF _ (fun s hs => pIsAtom.ret s hs) f.1 f.2 (by omega) (by omega)
  repeat' first
    | (conv => whnf
       first | refine FinVal.keep ?_ | refine Final.mk rfl rfl | refine ACall.scalA _ _ (ht) rfl ?_)
theorem pIsPattern.ret (f : VPattern) (h : tPattern.size f ≤ 1048576) : pIsPattern.Ret [.agg (oldL (tPattern.q f))] (.val (.bool (isPatF f))) [] := by
  refine pIsPattern.of rfl ?_
  have h : tFct.size f ≤ 1048576 := h
  rw [tFct_size, tStrs_size] at h
  have ht : pisTuple.Ret [.str f.1, .list none (strs f.2), .clo 90 [] []] (.val (.bool (isPatF f))) [] := pisTuple.ret termF _ (fun s hs => pIsTerm.ret s hs) f.1 f.2 (by omega) (by omega)
  repeat' first
    | (conv => whnf
       first | refine FinVal.keep ?_ | refine Final.mk rfl rfl | refine ACall.scalA _ _ (ht) rfl ?_)
theorem sIsPattern.ret (f : VPattern) (h : tPattern.size f ≤ 1048576) : sIsPattern.Ret [.agg (oldL (tPattern.q f))] (.val (.bool (isPatF f))) [] := by
  refine sIsPattern.of rfl ?_
  have h : tFct.size f ≤ 1048576 := h
  rw [tFct_size, tStrs_size] at h
  skip
  refine ALoop.mk Nat (fun i => ⟨[(1, .bptr 0 0), (3, .val (.int .i64 i))], [.cells .var (oldL (tPattern.q f))], []⟩) (fun i => i ≤ f.2.length ∧ (f.2.take i).all termF = true) (fun i => f.2.length - i) ⟨0, ⟨Nat.zero_le _, rfl⟩, ?_⟩ (fun i hi => ?_)
  · repeat' first
      | exact trivial | refine Weak.mk ?_ ?_ ?_ ?_ (Or.inl (Nat.le_of_ble_eq_true rfl)) | refine And.intro ?_ ?_ | with_reducible rfl | exact Nat.le_of_ble_eq_true rfl | refine AV.int_congr ?_ | (apply rfl)
  repeat' first
    | (conv => whnf
       first | refine Need.mk (fun h => h) ?_ | refine Need.mk rfl ?_ | refine Ix.strsF rfl ?_ | refine Fork.dec (fun _ => ?_) (fun _ => ?_) | refine Fork.neg (fun _ => ?_) (fun _ => ?_) | refine Round.mk ?_ | refine LitO.own rfl ?_ | refine FinVal.keep ?_ | refine Final.mk ?_ rfl | refine ACall.scalA _ _ (sIsTerm.ret _ ?_) rfl ?_ | refine ACall.scalA _ _ (sIsName.ret _ ?_) rfl ?_)
    | refine AV.bool_congr ?_
  all_goals try simp only [length_rows, length_strs, length_oldLL, List.length_map, Int.toNat_natCast] at *
  · have := str_le (l := f.2) (i := i) (by omega); omega
  · rename_i h2 h1
    have h2 : termF (f.2.getD i []) = false := h2
    simp [tupF, allQ_no (by omega) h2]
  · rename_i h2 h1
    refine ⟨i + 1, ⟨by omega, allQ_succ (by omega) hi.2 h2⟩, ?_, by omega⟩
    repeat' first
      | exact trivial | refine Weak.mk ?_ ?_ ?_ ?_ (Or.inl (Nat.le_of_ble_eq_true rfl)) | refine And.intro ?_ ?_ | with_reducible rfl | exact Nat.le_of_ble_eq_true rfl | refine AV.int_congr ?_ | (apply rfl)
    rw [wrap64 (by omega) (by omega)]; rfl
  · omega
  · have := hi.2
    rw [List.take_of_length_le (by omega)] at this
    simp [tupF, this]
end Go.Proofs.Ytkbblglbbfdnpaa
namespace Go.Proofs.Ytkbblglbbfdnpaa
open Abs
theorem slEqual.ret (l m : List Str) (hl : l.length ≤ 1099511627776) : slEqual.Ret [.list none (strs l), .list none (strs m)] (.val (.bool (decide (l = m)))) [] := by
  refine slEqual.of rfl ?_
  repeat' first
    | (conv => whnf
       first | refine Need.mk rfl ?_ | refine Fork.bne (fun _ => ?_) (fun _ => ?_) | refine LitO.own rfl ?_ | refine FinVal.keep ?_ | refine Final.mk ?_ rfl)
    | refine AV.bool_congr ?_
  · rename_i h
    rw [length_strs, length_strs] at h
    have h3 : ¬ l = m := fun e => h (by rw [e])
    simp [h3]
  rename_i h
  rw [length_strs, length_strs] at h
  have h : l.length = m.length := by omega
  skip
  refine ALoop.mk Nat (fun i => ⟨[(0, .list none (strs l)), (1, .list none (strs m)), (12, .val (.int .i64 l.length)), (13, .val (.int .i64 i))], [], []⟩) (fun i => i ≤ l.length ∧ l.take i = m.take i) (fun i => l.length - i) ⟨0, ⟨Nat.zero_le _, rfl⟩, ?_⟩ (fun i hi => ?_)
  · repeat' first
      | exact trivial | refine Weak.mk ?_ ?_ ?_ ?_ (Or.inl (Nat.le_of_ble_eq_true rfl)) | refine And.intro ?_ ?_ | with_reducible rfl | exact Nat.le_of_ble_eq_true rfl | refine AV.int_congr ?_ | refine AV.list_congr ?_ | (apply rfl)
    simp
  repeat' first
    | (conv => whnf
       first | refine Need.mk rfl ?_ | refine Ix.strsF rfl ?_ | refine Fork.dec (fun _ => ?_) (fun _ => ?_) | refine Fork.sne (fun _ => ?_) (fun _ => ?_) | refine Round.mk ?_ | refine LitO.own rfl ?_ | refine FinVal.keep ?_ | refine Final.mk ?_ rfl)
    | refine AV.bool_congr ?_
  · rename_i h1 h2
    have h3 : ¬ l = m := fun e => h2 (by rw [e])
    simp [h3]
  · rename_i h1 h2
    refine ⟨i + 1, ⟨by omega, ?_⟩, ?_, by omega⟩
    · rw [take_succ' [] (by omega), take_succ' (l := m) [] (by omega), hi.2]
      rw [Int.toNat_natCast] at h2
      have h2' : l.getD i [] = m.getD i [] := h2
      rw [h2']
    · repeat' first
        | exact trivial | refine Weak.mk ?_ ?_ ?_ ?_ (Or.inl (Nat.le_of_ble_eq_true rfl)) | refine And.intro ?_ ?_ | with_reducible rfl | exact Nat.le_of_ble_eq_true rfl | refine AV.int_congr ?_ | refine AV.list_congr ?_ | (apply rfl)
      rw [wrap64 (by omega) (by omega)]; rfl
  · rename_i h1
    have h2 := hi.2
    rw [List.take_of_length_le (by omega), List.take_of_length_le (by omega)] at h2
    simp [h2]
theorem fct_le {l : List Fct} {i : Nat} (hi : i < l.length) : tFct.size (l.getD i default) ≤ listSize tFct l :=
  listSize_mem tFct (List.mem_of_getElem? (facts_get hi))
theorem fct_le' {l : List Fct} (i : Nat) : tFct.size (l.getD i default) ≤ listSize tFct l := by
  rcases Nat.lt_or_ge i l.length with h | h
  · exact fct_le h
  · have : l.getD i default = default := by simp [List.getD, List.getElem?_eq_none h]
    rw [this]; exact Nat.zero_le _
end Go.Proofs.Ytkbblglbbfdnpaa
namespace Go.Proofs.Ytkbblglbbfdnpaa
open Abs
abbrev VPair := Str × Str
instance : DecidableEq VPair := instDecidableEqProd
def tPair : Ty VPair := Ty.pair Ty.str Ty.str
def tPairs : Ty (List VPair) := Ty.plain 50 tPair (fun _ => rfl) (fun _ => rfl)
theorem tPairs_sz (l : List VPair) : tPairs.size l = l.length + listSize tPair l := rfl
theorem tPair_get {l : List VPair} {i : Nat} (hi : i < l.length) : l[i]? = some (l.getD i default) := by simp [List.getD, hi]
theorem tPair_le {l : List VPair} {i : Nat} (hi : i < l.length) : tPair.size (l.getD i default) ≤ listSize tPair l := listSize_mem tPair (List.mem_of_getElem? (tPair_get hi))
end Go.Proofs.Ytkbblglbbfdnpaa
