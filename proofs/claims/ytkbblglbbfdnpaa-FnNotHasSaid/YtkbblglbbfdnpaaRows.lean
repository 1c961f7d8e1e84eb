/-
  No cell of these rows narrows 'for every input' (looked for: loops, veiled, ifaces, maps, wideKeys, modest, calm, conditions, laid).
  DERIVED. THE GIVEN ROWS OF THIS SEAT. 4 by the template 'for every input the law returns true; each argument reads behind the call as it read before'; 0 by the template 'total and deterministic' (their statements: YtkbblglbbfdnpaaTotals.lean).
  GIVEN WITH THE SEED: the statements are not yours to turn. If you find one false, say at which input.
  Laid BY PROGRAM, IN A SANDBOX (cutbox-rows.mjs): the forced cells as the released guide's own fill.sh prints them over the translation 72832d3dcb743e58… (all of the seat's roots in one cut). By AI agents, Wed Nov 11 2026. No macro, syntax, notation, axiom, sorry.
-/
import Derived.Test.YtkbblglbbfdnpaaChecked
import GoSem.Claim
import GoSem.ClaimJoined
import GoSem.ClaimMapViews
import Derived.JoinedTies
import Derived.KernelRfl
namespace Go.Proofs.Ytkbblglbbfdnpaa
/- THE CELL 'sum', in the pinned program and in every row, IS THE sha256 OF THE DUMP (.gsa) THAT YtkbblglbbfdnpaaProg.lean LOADS. Nothing in Lean hashes anything: it is a label: what it is worth is what the hold of that sum in a sandbox is worth. -/
noncomputable def Try.pinned : Pinned := { name := "ytkbblglbbfdnpaa", sum := "72832d3dcb743e588797c24120885f402b3b9e1f0913e1b312627b778b7b9e76", checked := Try.checked }
namespace Rows
def none {H : Type} : Left H := { results := [], args := [] }

/-- 'laws.FnFactSets': WHATEVER THE INPUT: true; the input reads as it did. -/
def fnFactSetsSpec : ChangeSpec := { name := "fnFactSets", fn := fun _ => fun
  | [d] => { results := [.lit (.bool true)], args := [d] }
  | _ => none }
def fnFactSetsRow : OpenClaim := { program := "ytkbblglbbfdnpaa", sum := "72832d3dcb743e588797c24120885f402b3b9e1f0913e1b312627b778b7b9e76", func := "loop.example/g03015/laws.FnFactSets", spec := "fnFactSets", unfollowed := true, recurses := true, apart := false }
def FnFactSetsSaid : Prop := fnFactSetsRow.holds Try.pinned (OpenSpec.ofChange fnFactSetsSpec)

/-- ITS FALSE NEIGHBOUR: 'it returns false'. Refute it at one input. -/
def fnFactSetsWrong : ChangeSpec := { name := "fnFactSets", fn := fun _ => fun
  | [d] => { results := [.lit (.bool false)], args := [d] }
  | _ => none }
def FnFactSetsWrongFalsely : Prop := fnFactSetsRow.holds Try.pinned (OpenSpec.ofChange fnFactSetsWrong)

/-- 'laws.FnFactOrder': WHATEVER THE INPUT: true; the input reads as it did. -/
def fnFactOrderSpec : ChangeSpec := { name := "fnFactOrder", fn := fun _ => fun
  | [d] => { results := [.lit (.bool true)], args := [d] }
  | _ => none }
def fnFactOrderRow : OpenClaim := { program := "ytkbblglbbfdnpaa", sum := "72832d3dcb743e588797c24120885f402b3b9e1f0913e1b312627b778b7b9e76", func := "loop.example/g03015/laws.FnFactOrder", spec := "fnFactOrder", unfollowed := true, recurses := true, apart := false }
def FnFactOrderSaid : Prop := fnFactOrderRow.holds Try.pinned (OpenSpec.ofChange fnFactOrderSpec)

/-- ITS FALSE NEIGHBOUR: 'it returns false'. Refute it at one input. -/
def fnFactOrderWrong : ChangeSpec := { name := "fnFactOrder", fn := fun _ => fun
  | [d] => { results := [.lit (.bool false)], args := [d] }
  | _ => none }
def FnFactOrderWrongFalsely : Prop := fnFactOrderRow.holds Try.pinned (OpenSpec.ofChange fnFactOrderWrong)

/-- 'laws.FnMatched': WHATEVER THE INPUT: true; the input reads as it did. -/
def fnMatchedSpec : ChangeSpec := { name := "fnMatched", fn := fun _ => fun
  | [d] => { results := [.lit (.bool true)], args := [d] }
  | _ => none }
def fnMatchedRow : OpenClaim := { program := "ytkbblglbbfdnpaa", sum := "72832d3dcb743e588797c24120885f402b3b9e1f0913e1b312627b778b7b9e76", func := "loop.example/g03015/laws.FnMatched", spec := "fnMatched", unfollowed := true, recurses := true, apart := false }
def FnMatchedSaid : Prop := fnMatchedRow.holds Try.pinned (OpenSpec.ofChange fnMatchedSpec)

/-- ITS FALSE NEIGHBOUR: 'it returns false'. Refute it at one input. -/
def fnMatchedWrong : ChangeSpec := { name := "fnMatched", fn := fun _ => fun
  | [d] => { results := [.lit (.bool false)], args := [d] }
  | _ => none }
def FnMatchedWrongFalsely : Prop := fnMatchedRow.holds Try.pinned (OpenSpec.ofChange fnMatchedWrong)

/-- 'laws.FnNotHas': WHATEVER THE INPUT: true; the input reads as it did. -/
def fnNotHasSpec : ChangeSpec := { name := "fnNotHas", fn := fun _ => fun
  | [d] => { results := [.lit (.bool true)], args := [d] }
  | _ => none }
def fnNotHasRow : OpenClaim := { program := "ytkbblglbbfdnpaa", sum := "72832d3dcb743e588797c24120885f402b3b9e1f0913e1b312627b778b7b9e76", func := "loop.example/g03015/laws.FnNotHas", spec := "fnNotHas", unfollowed := true, recurses := true, apart := false }
def FnNotHasSaid : Prop := fnNotHasRow.holds Try.pinned (OpenSpec.ofChange fnNotHasSpec)

/-- ITS FALSE NEIGHBOUR: 'it returns false'. Refute it at one input. -/
def fnNotHasWrong : ChangeSpec := { name := "fnNotHas", fn := fun _ => fun
  | [d] => { results := [.lit (.bool false)], args := [d] }
  | _ => none }
def FnNotHasWrongFalsely : Prop := fnNotHasRow.holds Try.pinned (OpenSpec.ofChange fnNotHasWrong)

/- THE SECOND FORM. 'bulk': how many values and letters a reading holds, each counted each time it is reached (what is shared counts as often as it is met; a slice's spare places count too). A statement '..UptoSaid' is the law's where the arguments, and the package variables that the reading takes, are together of bulk at most 1048576: NARROWER than '..Said'. Prove '..Said' where nothing that the law and all that it calls make is longer than what came in: it says more and counts as full. Else prove '..UptoSaid'. A law counts once. -/
mutual
def uptoBulk {H : Type} : DataW H → Nat
  | .lit (.string bytes) => bytes.length + 1
  | .lit _ => 1
  | .nil => 1
  | .ptr d => uptoBulk d + 1
  | .slice elems spare => uptoBulkAll elems + uptoBulkAll spare + 1
  | .agg parts => uptoBulkAll parts + 1
  | .iface _ d => uptoBulk d + 1
  | .map entries => uptoBulkEntries entries + 1
  | .held _ => 1
def uptoBulkAll {H : Type} : List (DataW H) → Nat
  | [] => 0
  | d :: r => uptoBulk d + uptoBulkAll r
def uptoBulkEntries {H : Type} : List (Lit × DataW H) → Nat
  | [] => 0
  | x :: r => uptoBulkEntry x + uptoBulkEntries r
def uptoBulkEntry {H : Type} : Lit × DataW H → Nat
  | (.string bytes, d) => bytes.length + uptoBulk d + 1
  | (_, d) => uptoBulk d + 1
 end
def uptoSmall : (H : Type) → List (DataW H) → Bool := fun _ ds => decide (uptoBulkAll ds ≤ 1048576)
def OpenSpec.upto (s : _root_.Go.ChangeSpec) : _root_.Go.OpenSpec := { _root_.Go.OpenSpec.ofChange s with cond := some uptoSmall }

/-- 'laws.FnFactSets', WHERE WHAT IT READS IS OF BULK AT MOST 1048576: true; the input reads as it did. -/
def fnFactSetsUptoRow : OpenClaim := { program := "ytkbblglbbfdnpaa", sum := "72832d3dcb743e588797c24120885f402b3b9e1f0913e1b312627b778b7b9e76", func := "loop.example/g03015/laws.FnFactSets", spec := "fnFactSets", unfollowed := true, recurses := true, apart := false, narrowed := true }
def FnFactSetsUptoSaid : Prop := fnFactSetsUptoRow.holds Try.pinned (OpenSpec.upto fnFactSetsSpec)

/-- 'laws.FnFactOrder', WHERE WHAT IT READS IS OF BULK AT MOST 1048576: true; the input reads as it did. -/
def fnFactOrderUptoRow : OpenClaim := { program := "ytkbblglbbfdnpaa", sum := "72832d3dcb743e588797c24120885f402b3b9e1f0913e1b312627b778b7b9e76", func := "loop.example/g03015/laws.FnFactOrder", spec := "fnFactOrder", unfollowed := true, recurses := true, apart := false, narrowed := true }
def FnFactOrderUptoSaid : Prop := fnFactOrderUptoRow.holds Try.pinned (OpenSpec.upto fnFactOrderSpec)

/-- 'laws.FnMatched', WHERE WHAT IT READS IS OF BULK AT MOST 1048576: true; the input reads as it did. -/
def fnMatchedUptoRow : OpenClaim := { program := "ytkbblglbbfdnpaa", sum := "72832d3dcb743e588797c24120885f402b3b9e1f0913e1b312627b778b7b9e76", func := "loop.example/g03015/laws.FnMatched", spec := "fnMatched", unfollowed := true, recurses := true, apart := false, narrowed := true }
def FnMatchedUptoSaid : Prop := fnMatchedUptoRow.holds Try.pinned (OpenSpec.upto fnMatchedSpec)

/-- 'laws.FnNotHas', WHERE WHAT IT READS IS OF BULK AT MOST 1048576: true; the input reads as it did. -/
def fnNotHasUptoRow : OpenClaim := { program := "ytkbblglbbfdnpaa", sum := "72832d3dcb743e588797c24120885f402b3b9e1f0913e1b312627b778b7b9e76", func := "loop.example/g03015/laws.FnNotHas", spec := "fnNotHas", unfollowed := true, recurses := true, apart := false, narrowed := true }
def FnNotHasUptoSaid : Prop := fnNotHasUptoRow.holds Try.pinned (OpenSpec.upto fnNotHasSpec)

end Rows
end Go.Proofs.Ytkbblglbbfdnpaa
