/-
  No cell of these rows narrows 'for every input' (looked for: loops, veiled, ifaces, maps, wideKeys, modest, calm, conditions, laid).
  DERIVED. THE GIVEN ROWS OF THIS SEAT. 7 by the template 'for every input the law returns true; each argument reads behind the call as it read before'; 0 by the template 'total and deterministic' (their statements: YtakojclbmhphnaaTotals.lean).
  GIVEN WITH THE SEED: the statements are not yours to turn. If you find one false, say at which input.
  Laid BY PROGRAM, IN A SANDBOX (cutbox-rows.mjs): the forced cells as the released guide's own fill.sh prints them over the translation 4e93e409cf6bf9ee… (all of the seat's roots in one cut). By AI agents, Wed Nov 11 2026. No macro, syntax, notation, axiom, sorry.
-/
import Derived.Test.YtakojclbmhphnaaChecked
import GoSem.Claim
import GoSem.ClaimJoined
import GoSem.ClaimMapViews
import Derived.JoinedTies
import Derived.KernelRfl
namespace Go.Proofs.Ytakojclbmhphnaa
/- THE CELL 'sum', in the pinned program and in every row, IS THE sha256 OF THE DUMP (.gsa) THAT YtakojclbmhphnaaProg.lean LOADS. Nothing in Lean hashes anything: it is a label: what it is worth is what the hold of that sum in a sandbox is worth. -/
noncomputable def Try.pinned : Pinned := { name := "ytakojclbmhphnaa", sum := "4e93e409cf6bf9ee9db0b9757bd982b8b14c0599aa3121e44353fca5c17590cc", checked := Try.checked }
namespace Rows
def none {H : Type} : Left H := { results := [], args := [] }

/-- 'laws.FnFactSets': WHATEVER THE INPUT: true; the input reads as it did. -/
def fnFactSetsSpec : ChangeSpec := { name := "fnFactSets", fn := fun _ => fun
  | [d] => { results := [.lit (.bool true)], args := [d] }
  | _ => none }
def fnFactSetsRow : OpenClaim := { program := "ytakojclbmhphnaa", sum := "4e93e409cf6bf9ee9db0b9757bd982b8b14c0599aa3121e44353fca5c17590cc", func := "loop.example/g03015/laws.FnFactSets", spec := "fnFactSets", unfollowed := true, recurses := true, apart := false }
def FnFactSetsSaid : Prop := fnFactSetsRow.holds Try.pinned (OpenSpec.ofChange fnFactSetsSpec)

/-- ITS FALSE NEIGHBOUR: 'it returns false'. Refute it at one input. -/
def fnFactSetsWrong : ChangeSpec := { name := "fnFactSets", fn := fun _ => fun
  | [d] => { results := [.lit (.bool false)], args := [d] }
  | _ => none }
def FnFactSetsWrongFalsely : Prop := fnFactSetsRow.holds Try.pinned (OpenSpec.ofChange fnFactSetsWrong)

/-- 'laws.FnFactOrder': WHATEVER THE INPUT: true; the input reads as it did. -/
def fnFactOrderSpec : ChangeSpec := { name := "fnFactOrder", fn := fun _ => fun
  | [d] => { results := [.lit (.bool true)], args := [d] }
  | _ => none }
def fnFactOrderRow : OpenClaim := { program := "ytakojclbmhphnaa", sum := "4e93e409cf6bf9ee9db0b9757bd982b8b14c0599aa3121e44353fca5c17590cc", func := "loop.example/g03015/laws.FnFactOrder", spec := "fnFactOrder", unfollowed := true, recurses := true, apart := false }
def FnFactOrderSaid : Prop := fnFactOrderRow.holds Try.pinned (OpenSpec.ofChange fnFactOrderSpec)

/-- ITS FALSE NEIGHBOUR: 'it returns false'. Refute it at one input. -/
def fnFactOrderWrong : ChangeSpec := { name := "fnFactOrder", fn := fun _ => fun
  | [d] => { results := [.lit (.bool false)], args := [d] }
  | _ => none }
def FnFactOrderWrongFalsely : Prop := fnFactOrderRow.holds Try.pinned (OpenSpec.ofChange fnFactOrderWrong)

/-- 'laws.FnTests': WHATEVER THE INPUT: true; the input reads as it did. -/
def fnTestsSpec : ChangeSpec := { name := "fnTests", fn := fun _ => fun
  | [d] => { results := [.lit (.bool true)], args := [d] }
  | _ => none }
def fnTestsRow : OpenClaim := { program := "ytakojclbmhphnaa", sum := "4e93e409cf6bf9ee9db0b9757bd982b8b14c0599aa3121e44353fca5c17590cc", func := "loop.example/g03015/laws.FnTests", spec := "fnTests", unfollowed := true, recurses := true, apart := false }
def FnTestsSaid : Prop := fnTestsRow.holds Try.pinned (OpenSpec.ofChange fnTestsSpec)

/-- ITS FALSE NEIGHBOUR: 'it returns false'. Refute it at one input. -/
def fnTestsWrong : ChangeSpec := { name := "fnTests", fn := fun _ => fun
  | [d] => { results := [.lit (.bool false)], args := [d] }
  | _ => none }
def FnTestsWrongFalsely : Prop := fnTestsRow.holds Try.pinned (OpenSpec.ofChange fnTestsWrong)

/-- 'laws.FnNotHas': WHATEVER THE INPUT: true; the input reads as it did. -/
def fnNotHasSpec : ChangeSpec := { name := "fnNotHas", fn := fun _ => fun
  | [d] => { results := [.lit (.bool true)], args := [d] }
  | _ => none }
def fnNotHasRow : OpenClaim := { program := "ytakojclbmhphnaa", sum := "4e93e409cf6bf9ee9db0b9757bd982b8b14c0599aa3121e44353fca5c17590cc", func := "loop.example/g03015/laws.FnNotHas", spec := "fnNotHas", unfollowed := true, recurses := true, apart := false }
def FnNotHasSaid : Prop := fnNotHasRow.holds Try.pinned (OpenSpec.ofChange fnNotHasSpec)

/-- ITS FALSE NEIGHBOUR: 'it returns false'. Refute it at one input. -/
def fnNotHasWrong : ChangeSpec := { name := "fnNotHas", fn := fun _ => fun
  | [d] => { results := [.lit (.bool false)], args := [d] }
  | _ => none }
def FnNotHasWrongFalsely : Prop := fnNotHasRow.holds Try.pinned (OpenSpec.ofChange fnNotHasWrong)

/-- 'laws.FnInstance': WHATEVER THE INPUT: true; the input reads as it did. -/
def fnInstanceSpec : ChangeSpec := { name := "fnInstance", fn := fun _ => fun
  | [d] => { results := [.lit (.bool true)], args := [d] }
  | _ => none }
def fnInstanceRow : OpenClaim := { program := "ytakojclbmhphnaa", sum := "4e93e409cf6bf9ee9db0b9757bd982b8b14c0599aa3121e44353fca5c17590cc", func := "loop.example/g03015/laws.FnInstance", spec := "fnInstance", unfollowed := true, recurses := true, apart := false }
def FnInstanceSaid : Prop := fnInstanceRow.holds Try.pinned (OpenSpec.ofChange fnInstanceSpec)

/-- ITS FALSE NEIGHBOUR: 'it returns false'. Refute it at one input. -/
def fnInstanceWrong : ChangeSpec := { name := "fnInstance", fn := fun _ => fun
  | [d] => { results := [.lit (.bool false)], args := [d] }
  | _ => none }
def FnInstanceWrongFalsely : Prop := fnInstanceRow.holds Try.pinned (OpenSpec.ofChange fnInstanceWrong)

/-- 'laws.FnMatched': WHATEVER THE INPUT: true; the input reads as it did. -/
def fnMatchedSpec : ChangeSpec := { name := "fnMatched", fn := fun _ => fun
  | [d] => { results := [.lit (.bool true)], args := [d] }
  | _ => none }
def fnMatchedRow : OpenClaim := { program := "ytakojclbmhphnaa", sum := "4e93e409cf6bf9ee9db0b9757bd982b8b14c0599aa3121e44353fca5c17590cc", func := "loop.example/g03015/laws.FnMatched", spec := "fnMatched", unfollowed := true, recurses := true, apart := false }
def FnMatchedSaid : Prop := fnMatchedRow.holds Try.pinned (OpenSpec.ofChange fnMatchedSpec)

/-- ITS FALSE NEIGHBOUR: 'it returns false'. Refute it at one input. -/
def fnMatchedWrong : ChangeSpec := { name := "fnMatched", fn := fun _ => fun
  | [d] => { results := [.lit (.bool false)], args := [d] }
  | _ => none }
def FnMatchedWrongFalsely : Prop := fnMatchedRow.holds Try.pinned (OpenSpec.ofChange fnMatchedWrong)

/-- 'laws.FnExactExtend': WHATEVER THE INPUT: true; the input reads as it did. -/
def fnExactExtendSpec : ChangeSpec := { name := "fnExactExtend", fn := fun _ => fun
  | [d1, d2, d3] => { results := [.lit (.bool true)], args := [d1, d2, d3] }
  | _ => none }
def fnExactExtendRow : OpenClaim := { program := "ytakojclbmhphnaa", sum := "4e93e409cf6bf9ee9db0b9757bd982b8b14c0599aa3121e44353fca5c17590cc", func := "loop.example/g03015/laws.FnExactExtend", spec := "fnExactExtend", inPlace := ["slices.overlaps[loop.example/g03015/impl.Pair]"], unfollowed := true, recurses := true, apart := false }
def FnExactExtendSaid : Prop := fnExactExtendRow.holds Try.pinned (OpenSpec.ofChange fnExactExtendSpec)

/-- ITS FALSE NEIGHBOUR: 'it returns false'. Refute it at one input. -/
def fnExactExtendWrong : ChangeSpec := { name := "fnExactExtend", fn := fun _ => fun
  | [d1, d2, d3] => { results := [.lit (.bool false)], args := [d1, d2, d3] }
  | _ => none }
def FnExactExtendWrongFalsely : Prop := fnExactExtendRow.holds Try.pinned (OpenSpec.ofChange fnExactExtendWrong)

/- THE SECOND FORM. 'bulk': how many values and letters a reading holds, each counted each time it is reached (what is shared counts as often as it is met; a slice's spare places count too). A statement '..UptoSaid' is the law's where the arguments, and the package variables that the reading takes, are together of bulk at most 1048576: NARROWER than '..Said'. Prove '..Said' where nothing that the law and all that it calls make is longer than what came in: it says more and counts as full. Else prove '..UptoSaid'. A law counts once. -/
mutual
def uptoBulk {H : Type} : DataW H → Nat
  | .lit (.string bytes) => bytes.length + 1
  | .lit _ => 1
  | .nil => 1
  | .ptr d => uptoBulk d + 1
  | .slice elems spare => uptoBulkAll elems + uptoBulkAll spare + 1
  | .agg parts => uptoBulkAll parts + 1
  | .iface _ d => uptoBulk d + 1
  | .map entries => uptoBulkEntries entries + 1
  | .held _ => 1
def uptoBulkAll {H : Type} : List (DataW H) → Nat
  | [] => 0
  | d :: r => uptoBulk d + uptoBulkAll r
def uptoBulkEntries {H : Type} : List (Lit × DataW H) → Nat
  | [] => 0
  | x :: r => uptoBulkEntry x + uptoBulkEntries r
def uptoBulkEntry {H : Type} : Lit × DataW H → Nat
  | (.string bytes, d) => bytes.length + uptoBulk d + 1
  | (_, d) => uptoBulk d + 1
 end
def uptoSmall : (H : Type) → List (DataW H) → Bool := fun _ ds => decide (uptoBulkAll ds ≤ 1048576)
def OpenSpec.upto (s : _root_.Go.ChangeSpec) : _root_.Go.OpenSpec := { _root_.Go.OpenSpec.ofChange s with cond := some uptoSmall }

/-- 'laws.FnFactSets', WHERE WHAT IT READS IS OF BULK AT MOST 1048576: true; the input reads as it did. -/
def fnFactSetsUptoRow : OpenClaim := { program := "ytakojclbmhphnaa", sum := "4e93e409cf6bf9ee9db0b9757bd982b8b14c0599aa3121e44353fca5c17590cc", func := "loop.example/g03015/laws.FnFactSets", spec := "fnFactSets", unfollowed := true, recurses := true, apart := false, narrowed := true }
def FnFactSetsUptoSaid : Prop := fnFactSetsUptoRow.holds Try.pinned (OpenSpec.upto fnFactSetsSpec)

/-- 'laws.FnFactOrder', WHERE WHAT IT READS IS OF BULK AT MOST 1048576: true; the input reads as it did. -/
def fnFactOrderUptoRow : OpenClaim := { program := "ytakojclbmhphnaa", sum := "4e93e409cf6bf9ee9db0b9757bd982b8b14c0599aa3121e44353fca5c17590cc", func := "loop.example/g03015/laws.FnFactOrder", spec := "fnFactOrder", unfollowed := true, recurses := true, apart := false, narrowed := true }
def FnFactOrderUptoSaid : Prop := fnFactOrderUptoRow.holds Try.pinned (OpenSpec.upto fnFactOrderSpec)

/-- 'laws.FnTests', WHERE WHAT IT READS IS OF BULK AT MOST 1048576: true; the input reads as it did. -/
def fnTestsUptoRow : OpenClaim := { program := "ytakojclbmhphnaa", sum := "4e93e409cf6bf9ee9db0b9757bd982b8b14c0599aa3121e44353fca5c17590cc", func := "loop.example/g03015/laws.FnTests", spec := "fnTests", unfollowed := true, recurses := true, apart := false, narrowed := true }
def FnTestsUptoSaid : Prop := fnTestsUptoRow.holds Try.pinned (OpenSpec.upto fnTestsSpec)

/-- 'laws.FnNotHas', WHERE WHAT IT READS IS OF BULK AT MOST 1048576: true; the input reads as it did. -/
def fnNotHasUptoRow : OpenClaim := { program := "ytakojclbmhphnaa", sum := "4e93e409cf6bf9ee9db0b9757bd982b8b14c0599aa3121e44353fca5c17590cc", func := "loop.example/g03015/laws.FnNotHas", spec := "fnNotHas", unfollowed := true, recurses := true, apart := false, narrowed := true }
def FnNotHasUptoSaid : Prop := fnNotHasUptoRow.holds Try.pinned (OpenSpec.upto fnNotHasSpec)

/-- 'laws.FnInstance', WHERE WHAT IT READS IS OF BULK AT MOST 1048576: true; the input reads as it did. -/
def fnInstanceUptoRow : OpenClaim := { program := "ytakojclbmhphnaa", sum := "4e93e409cf6bf9ee9db0b9757bd982b8b14c0599aa3121e44353fca5c17590cc", func := "loop.example/g03015/laws.FnInstance", spec := "fnInstance", unfollowed := true, recurses := true, apart := false, narrowed := true }
def FnInstanceUptoSaid : Prop := fnInstanceUptoRow.holds Try.pinned (OpenSpec.upto fnInstanceSpec)

/-- 'laws.FnMatched', WHERE WHAT IT READS IS OF BULK AT MOST 1048576: true; the input reads as it did. -/
def fnMatchedUptoRow : OpenClaim := { program := "ytakojclbmhphnaa", sum := "4e93e409cf6bf9ee9db0b9757bd982b8b14c0599aa3121e44353fca5c17590cc", func := "loop.example/g03015/laws.FnMatched", spec := "fnMatched", unfollowed := true, recurses := true, apart := false, narrowed := true }
def FnMatchedUptoSaid : Prop := fnMatchedUptoRow.holds Try.pinned (OpenSpec.upto fnMatchedSpec)

/-- 'laws.FnExactExtend', WHERE WHAT IT READS IS OF BULK AT MOST 1048576: true; the input reads as it did. -/
def fnExactExtendUptoRow : OpenClaim := { program := "ytakojclbmhphnaa", sum := "4e93e409cf6bf9ee9db0b9757bd982b8b14c0599aa3121e44353fca5c17590cc", func := "loop.example/g03015/laws.FnExactExtend", spec := "fnExactExtend", inPlace := ["slices.overlaps[loop.example/g03015/impl.Pair]"], unfollowed := true, recurses := true, apart := false, narrowed := true }
def FnExactExtendUptoSaid : Prop := fnExactExtendUptoRow.holds Try.pinned (OpenSpec.upto fnExactExtendSpec)

end Rows
end Go.Proofs.Ytakojclbmhphnaa
