/-
  No cell of these rows narrows 'for every input' (looked for: loops, veiled, ifaces, maps, wideKeys, modest, calm, conditions, laid).
  DERIVED. THE GIVEN ROWS OF THIS SEAT. 4 by the template 'for every input the law returns true; each argument reads behind the call as it read before'; 0 by the template 'total and deterministic' (their statements: YtfnejdkkhpjhmaaTotals.lean).
  GIVEN WITH THE SEED: the statements are not yours to turn. If you find one false, say at which input.
  Laid BY PROGRAM, IN A SANDBOX (cutbox-rows.mjs): the forced cells as the released guide's own fill.sh prints them over the translation 11ce07f9cd7a8dcf… (all of the seat's roots in one cut). By AI agents, Wed Nov 11 2026. No macro, syntax, notation, axiom, sorry.
-/
import Derived.Test.YtfnejdkkhpjhmaaChecked
import GoSem.Claim
import GoSem.ClaimJoined
import GoSem.ClaimMapViews
import Derived.JoinedTies
import Derived.KernelRfl
namespace Go.Proofs.Ytfnejdkkhpjhmaa
/- THE CELL 'sum', in the pinned program and in every row, IS THE sha256 OF THE DUMP (.gsa) THAT YtfnejdkkhpjhmaaProg.lean LOADS. Nothing in Lean hashes anything: it is a label: what it is worth is what the hold of that sum in a sandbox is worth. -/
noncomputable def Try.pinned : Pinned := { name := "ytfnejdkkhpjhmaa", sum := "11ce07f9cd7a8dcf06977fc3defbd854f5f3eeace884446c5c6205b64a585b07", checked := Try.checked }
namespace Rows
def none {H : Type} : Left H := { results := [], args := [] }

/-- 'laws.FnExactExtend': WHATEVER THE INPUT: true; the input reads as it did. -/
def fnExactExtendSpec : ChangeSpec := { name := "fnExactExtend", fn := fun _ => fun
  | [d1, d2, d3] => { results := [.lit (.bool true)], args := [d1, d2, d3] }
  | _ => none }
def fnExactExtendRow : OpenClaim := { program := "ytfnejdkkhpjhmaa", sum := "11ce07f9cd7a8dcf06977fc3defbd854f5f3eeace884446c5c6205b64a585b07", func := "loop.example/g03015/laws.FnExactExtend", spec := "fnExactExtend", inPlace := ["slices.overlaps[loop.example/g03015/impl.Pair]"], unfollowed := true, recurses := true, apart := false }
def FnExactExtendSaid : Prop := fnExactExtendRow.holds Try.pinned (OpenSpec.ofChange fnExactExtendSpec)

/-- ITS FALSE NEIGHBOUR: 'it returns false'. Refute it at one input. -/
def fnExactExtendWrong : ChangeSpec := { name := "fnExactExtend", fn := fun _ => fun
  | [d1, d2, d3] => { results := [.lit (.bool false)], args := [d1, d2, d3] }
  | _ => none }
def FnExactExtendWrongFalsely : Prop := fnExactExtendRow.holds Try.pinned (OpenSpec.ofChange fnExactExtendWrong)

/-- 'laws.FnExactPathOf': WHATEVER THE INPUT: true; the input reads as it did. -/
def fnExactPathOfSpec : ChangeSpec := { name := "fnExactPathOf", fn := fun _ => fun
  | [d1, d2] => { results := [.lit (.bool true)], args := [d1, d2] }
  | _ => none }
def fnExactPathOfRow : OpenClaim := { program := "ytfnejdkkhpjhmaa", sum := "11ce07f9cd7a8dcf06977fc3defbd854f5f3eeace884446c5c6205b64a585b07", func := "loop.example/g03015/laws.FnExactPathOf", spec := "fnExactPathOf", apart := false }
def FnExactPathOfSaid : Prop := fnExactPathOfRow.holds Try.pinned (OpenSpec.ofChange fnExactPathOfSpec)

/-- ITS FALSE NEIGHBOUR: 'it returns false'. Refute it at one input. -/
def fnExactPathOfWrong : ChangeSpec := { name := "fnExactPathOf", fn := fun _ => fun
  | [d1, d2] => { results := [.lit (.bool false)], args := [d1, d2] }
  | _ => none }
def FnExactPathOfWrongFalsely : Prop := fnExactPathOfRow.holds Try.pinned (OpenSpec.ofChange fnExactPathOfWrong)

/-- 'laws.FnExactNetworkSize': WHATEVER THE INPUT: true; the input reads as it did. -/
def fnExactNetworkSizeSpec : ChangeSpec := { name := "fnExactNetworkSize", fn := fun _ => fun
  | [d] => { results := [.lit (.bool true)], args := [d] }
  | _ => none }
def fnExactNetworkSizeRow : OpenClaim := { program := "ytfnejdkkhpjhmaa", sum := "11ce07f9cd7a8dcf06977fc3defbd854f5f3eeace884446c5c6205b64a585b07", func := "loop.example/g03015/laws.FnExactNetworkSize", spec := "fnExactNetworkSize", apart := false }
def FnExactNetworkSizeSaid : Prop := fnExactNetworkSizeRow.holds Try.pinned (OpenSpec.ofChange fnExactNetworkSizeSpec)

/-- ITS FALSE NEIGHBOUR: 'it returns false'. Refute it at one input. -/
def fnExactNetworkSizeWrong : ChangeSpec := { name := "fnExactNetworkSize", fn := fun _ => fun
  | [d] => { results := [.lit (.bool false)], args := [d] }
  | _ => none }
def FnExactNetworkSizeWrongFalsely : Prop := fnExactNetworkSizeRow.holds Try.pinned (OpenSpec.ofChange fnExactNetworkSizeWrong)

/-- 'laws.FnExactSameMemories': WHATEVER THE INPUT: true; the input reads as it did. -/
def fnExactSameMemoriesSpec : ChangeSpec := { name := "fnExactSameMemories", fn := fun _ => fun
  | [d1, d2] => { results := [.lit (.bool true)], args := [d1, d2] }
  | _ => none }
def fnExactSameMemoriesRow : OpenClaim := { program := "ytfnejdkkhpjhmaa", sum := "11ce07f9cd7a8dcf06977fc3defbd854f5f3eeace884446c5c6205b64a585b07", func := "loop.example/g03015/laws.FnExactSameMemories", spec := "fnExactSameMemories", unfollowed := true, recurses := true, apart := false }
def FnExactSameMemoriesSaid : Prop := fnExactSameMemoriesRow.holds Try.pinned (OpenSpec.ofChange fnExactSameMemoriesSpec)

/-- ITS FALSE NEIGHBOUR: 'it returns false'. Refute it at one input. -/
def fnExactSameMemoriesWrong : ChangeSpec := { name := "fnExactSameMemories", fn := fun _ => fun
  | [d1, d2] => { results := [.lit (.bool false)], args := [d1, d2] }
  | _ => none }
def FnExactSameMemoriesWrongFalsely : Prop := fnExactSameMemoriesRow.holds Try.pinned (OpenSpec.ofChange fnExactSameMemoriesWrong)

/- THE SECOND FORM. 'bulk': how many values and letters a reading holds, each counted each time it is reached (what is shared counts as often as it is met; a slice's spare places count too). A statement '..UptoSaid' is the law's where the arguments, and the package variables that the reading takes, are together of bulk at most 1048576: NARROWER than '..Said'. Prove '..Said' where nothing that the law and all that it calls make is longer than what came in: it says more and counts as full. Else prove '..UptoSaid'. A law counts once. -/
mutual
def uptoBulk {H : Type} : DataW H → Nat
  | .lit (.string bytes) => bytes.length + 1
  | .lit _ => 1
  | .nil => 1
  | .ptr d => uptoBulk d + 1
  | .slice elems spare => uptoBulkAll elems + uptoBulkAll spare + 1
  | .agg parts => uptoBulkAll parts + 1
  | .iface _ d => uptoBulk d + 1
  | .map entries => uptoBulkEntries entries + 1
  | .held _ => 1
def uptoBulkAll {H : Type} : List (DataW H) → Nat
  | [] => 0
  | d :: r => uptoBulk d + uptoBulkAll r
def uptoBulkEntries {H : Type} : List (Lit × DataW H) → Nat
  | [] => 0
  | x :: r => uptoBulkEntry x + uptoBulkEntries r
def uptoBulkEntry {H : Type} : Lit × DataW H → Nat
  | (.string bytes, d) => bytes.length + uptoBulk d + 1
  | (_, d) => uptoBulk d + 1
 end
def uptoSmall : (H : Type) → List (DataW H) → Bool := fun _ ds => decide (uptoBulkAll ds ≤ 1048576)
def OpenSpec.upto (s : _root_.Go.ChangeSpec) : _root_.Go.OpenSpec := { _root_.Go.OpenSpec.ofChange s with cond := some uptoSmall }

/-- 'laws.FnExactExtend', WHERE WHAT IT READS IS OF BULK AT MOST 1048576: true; the input reads as it did. -/
def fnExactExtendUptoRow : OpenClaim := { program := "ytfnejdkkhpjhmaa", sum := "11ce07f9cd7a8dcf06977fc3defbd854f5f3eeace884446c5c6205b64a585b07", func := "loop.example/g03015/laws.FnExactExtend", spec := "fnExactExtend", inPlace := ["slices.overlaps[loop.example/g03015/impl.Pair]"], unfollowed := true, recurses := true, apart := false, narrowed := true }
def FnExactExtendUptoSaid : Prop := fnExactExtendUptoRow.holds Try.pinned (OpenSpec.upto fnExactExtendSpec)

/-- 'laws.FnExactPathOf', WHERE WHAT IT READS IS OF BULK AT MOST 1048576: true; the input reads as it did. -/
def fnExactPathOfUptoRow : OpenClaim := { program := "ytfnejdkkhpjhmaa", sum := "11ce07f9cd7a8dcf06977fc3defbd854f5f3eeace884446c5c6205b64a585b07", func := "loop.example/g03015/laws.FnExactPathOf", spec := "fnExactPathOf", apart := false, narrowed := true }
def FnExactPathOfUptoSaid : Prop := fnExactPathOfUptoRow.holds Try.pinned (OpenSpec.upto fnExactPathOfSpec)

/-- 'laws.FnExactNetworkSize', WHERE WHAT IT READS IS OF BULK AT MOST 1048576: true; the input reads as it did. -/
def fnExactNetworkSizeUptoRow : OpenClaim := { program := "ytfnejdkkhpjhmaa", sum := "11ce07f9cd7a8dcf06977fc3defbd854f5f3eeace884446c5c6205b64a585b07", func := "loop.example/g03015/laws.FnExactNetworkSize", spec := "fnExactNetworkSize", apart := false, narrowed := true }
def FnExactNetworkSizeUptoSaid : Prop := fnExactNetworkSizeUptoRow.holds Try.pinned (OpenSpec.upto fnExactNetworkSizeSpec)

/-- 'laws.FnExactSameMemories', WHERE WHAT IT READS IS OF BULK AT MOST 1048576: true; the input reads as it did. -/
def fnExactSameMemoriesUptoRow : OpenClaim := { program := "ytfnejdkkhpjhmaa", sum := "11ce07f9cd7a8dcf06977fc3defbd854f5f3eeace884446c5c6205b64a585b07", func := "loop.example/g03015/laws.FnExactSameMemories", spec := "fnExactSameMemories", unfollowed := true, recurses := true, apart := false, narrowed := true }
def FnExactSameMemoriesUptoSaid : Prop := fnExactSameMemoriesUptoRow.holds Try.pinned (OpenSpec.upto fnExactSameMemoriesSpec)

end Rows
end Go.Proofs.Ytfnejdkkhpjhmaa
