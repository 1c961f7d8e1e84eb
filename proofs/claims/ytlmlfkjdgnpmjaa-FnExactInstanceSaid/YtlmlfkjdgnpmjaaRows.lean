/-
  No cell of these rows narrows 'for every input' (looked for: loops, veiled, ifaces, maps, wideKeys, modest, calm, conditions, laid).
  DERIVED. THE GIVEN ROWS OF THIS SEAT. 4 by the template 'for every input the law returns true; each argument reads behind the call as it read before'; 0 by the template 'total and deterministic' (their statements: YtlmlfkjdgnpmjaaTotals.lean).
  GIVEN WITH THE SEED: the statements are not yours to turn. If you find one false, say at which input.
  Laid BY PROGRAM, IN A SANDBOX (cutbox-rows.mjs): the forced cells as the released guide's own fill.sh prints them over the translation df8cf660022eb724… (all of the seat's roots in one cut). By AI agents, Wed Nov 11 2026. No macro, syntax, notation, axiom, sorry.
-/
import Derived.Test.YtlmlfkjdgnpmjaaChecked
import GoSem.Claim
import GoSem.ClaimJoined
import GoSem.ClaimMapViews
import Derived.JoinedTies
import Derived.KernelRfl
namespace Go.Proofs.Ytlmlfkjdgnpmjaa
/- THE CELL 'sum', in the pinned program and in every row, IS THE sha256 OF THE DUMP (.gsa) THAT YtlmlfkjdgnpmjaaProg.lean LOADS. Nothing in Lean hashes anything: it is a label: what it is worth is what the hold of that sum in a sandbox is worth. -/
noncomputable def Try.pinned : Pinned := { name := "ytlmlfkjdgnpmjaa", sum := "df8cf660022eb72485e502437b90f414a61dc3a7e5aa70b52f7da2bb9c4a2764", checked := Try.checked }
namespace Rows
def none {H : Type} : Left H := { results := [], args := [] }

/-- 'laws.FnExactInstance': WHATEVER THE INPUT: true; the input reads as it did. -/
def fnExactInstanceSpec : ChangeSpec := { name := "fnExactInstance", fn := fun _ => fun
  | [d1, d2] => { results := [.lit (.bool true)], args := [d1, d2] }
  | _ => none }
def fnExactInstanceRow : OpenClaim := { program := "ytlmlfkjdgnpmjaa", sum := "df8cf660022eb72485e502437b90f414a61dc3a7e5aa70b52f7da2bb9c4a2764", func := "loop.example/g03015/laws.FnExactInstance", spec := "fnExactInstance", unfollowed := true, recurses := true, apart := false }
def FnExactInstanceSaid : Prop := fnExactInstanceRow.holds Try.pinned (OpenSpec.ofChange fnExactInstanceSpec)

/-- ITS FALSE NEIGHBOUR: 'it returns false'. Refute it at one input. -/
def fnExactInstanceWrong : ChangeSpec := { name := "fnExactInstance", fn := fun _ => fun
  | [d1, d2] => { results := [.lit (.bool false)], args := [d1, d2] }
  | _ => none }
def FnExactInstanceWrongFalsely : Prop := fnExactInstanceRow.holds Try.pinned (OpenSpec.ofChange fnExactInstanceWrong)

/-- 'laws.FnExactExtend': WHATEVER THE INPUT: true; the input reads as it did. -/
def fnExactExtendSpec : ChangeSpec := { name := "fnExactExtend", fn := fun _ => fun
  | [d1, d2, d3] => { results := [.lit (.bool true)], args := [d1, d2, d3] }
  | _ => none }
def fnExactExtendRow : OpenClaim := { program := "ytlmlfkjdgnpmjaa", sum := "df8cf660022eb72485e502437b90f414a61dc3a7e5aa70b52f7da2bb9c4a2764", func := "loop.example/g03015/laws.FnExactExtend", spec := "fnExactExtend", inPlace := ["slices.overlaps[loop.example/g03015/impl.Pair]"], unfollowed := true, recurses := true, apart := false }
def FnExactExtendSaid : Prop := fnExactExtendRow.holds Try.pinned (OpenSpec.ofChange fnExactExtendSpec)

/-- ITS FALSE NEIGHBOUR: 'it returns false'. Refute it at one input. -/
def fnExactExtendWrong : ChangeSpec := { name := "fnExactExtend", fn := fun _ => fun
  | [d1, d2, d3] => { results := [.lit (.bool false)], args := [d1, d2, d3] }
  | _ => none }
def FnExactExtendWrongFalsely : Prop := fnExactExtendRow.holds Try.pinned (OpenSpec.ofChange fnExactExtendWrong)

/-- 'laws.FnExactAddFact': WHATEVER THE INPUT: true; the input reads as it did. -/
def fnExactAddFactSpec : ChangeSpec := { name := "fnExactAddFact", fn := fun _ => fun
  | [d1, d2] => { results := [.lit (.bool true)], args := [d1, d2] }
  | _ => none }
def fnExactAddFactRow : OpenClaim := { program := "ytlmlfkjdgnpmjaa", sum := "df8cf660022eb72485e502437b90f414a61dc3a7e5aa70b52f7da2bb9c4a2764", func := "loop.example/g03015/laws.FnExactAddFact", spec := "fnExactAddFact", unfollowed := true, recurses := true, apart := false }
def FnExactAddFactSaid : Prop := fnExactAddFactRow.holds Try.pinned (OpenSpec.ofChange fnExactAddFactSpec)

/-- ITS FALSE NEIGHBOUR: 'it returns false'. Refute it at one input. -/
def fnExactAddFactWrong : ChangeSpec := { name := "fnExactAddFact", fn := fun _ => fun
  | [d1, d2] => { results := [.lit (.bool false)], args := [d1, d2] }
  | _ => none }
def FnExactAddFactWrongFalsely : Prop := fnExactAddFactRow.holds Try.pinned (OpenSpec.ofChange fnExactAddFactWrong)

/-- 'laws.FnExactRemoveFact': WHATEVER THE INPUT: true; the input reads as it did. -/
def fnExactRemoveFactSpec : ChangeSpec := { name := "fnExactRemoveFact", fn := fun _ => fun
  | [d1, d2] => { results := [.lit (.bool true)], args := [d1, d2] }
  | _ => none }
def fnExactRemoveFactRow : OpenClaim := { program := "ytlmlfkjdgnpmjaa", sum := "df8cf660022eb72485e502437b90f414a61dc3a7e5aa70b52f7da2bb9c4a2764", func := "loop.example/g03015/laws.FnExactRemoveFact", spec := "fnExactRemoveFact", unfollowed := true, recurses := true, apart := false }
def FnExactRemoveFactSaid : Prop := fnExactRemoveFactRow.holds Try.pinned (OpenSpec.ofChange fnExactRemoveFactSpec)

/-- ITS FALSE NEIGHBOUR: 'it returns false'. Refute it at one input. -/
def fnExactRemoveFactWrong : ChangeSpec := { name := "fnExactRemoveFact", fn := fun _ => fun
  | [d1, d2] => { results := [.lit (.bool false)], args := [d1, d2] }
  | _ => none }
def FnExactRemoveFactWrongFalsely : Prop := fnExactRemoveFactRow.holds Try.pinned (OpenSpec.ofChange fnExactRemoveFactWrong)

/- THE SECOND FORM. 'bulk': how many values and letters a reading holds, each counted each time it is reached (what is shared counts as often as it is met; a slice's spare places count too). A statement '..UptoSaid' is the law's where the arguments, and the package variables that the reading takes, are together of bulk at most 1048576: NARROWER than '..Said'. Prove '..Said' where nothing that the law and all that it calls make is longer than what came in: it says more and counts as full. Else prove '..UptoSaid'. A law counts once. -/
mutual
def uptoBulk {H : Type} : DataW H → Nat
  | .lit (.string bytes) => bytes.length + 1
  | .lit _ => 1
  | .nil => 1
  | .ptr d => uptoBulk d + 1
  | .slice elems spare => uptoBulkAll elems + uptoBulkAll spare + 1
  | .agg parts => uptoBulkAll parts + 1
  | .iface _ d => uptoBulk d + 1
  | .map entries => uptoBulkEntries entries + 1
  | .held _ => 1
def uptoBulkAll {H : Type} : List (DataW H) → Nat
  | [] => 0
  | d :: r => uptoBulk d + uptoBulkAll r
def uptoBulkEntries {H : Type} : List (Lit × DataW H) → Nat
  | [] => 0
  | x :: r => uptoBulkEntry x + uptoBulkEntries r
def uptoBulkEntry {H : Type} : Lit × DataW H → Nat
  | (.string bytes, d) => bytes.length + uptoBulk d + 1
  | (_, d) => uptoBulk d + 1
 end
def uptoSmall : (H : Type) → List (DataW H) → Bool := fun _ ds => decide (uptoBulkAll ds ≤ 1048576)
def OpenSpec.upto (s : _root_.Go.ChangeSpec) : _root_.Go.OpenSpec := { _root_.Go.OpenSpec.ofChange s with cond := some uptoSmall }

/-- 'laws.FnExactInstance', WHERE WHAT IT READS IS OF BULK AT MOST 1048576: true; the input reads as it did. -/
def fnExactInstanceUptoRow : OpenClaim := { program := "ytlmlfkjdgnpmjaa", sum := "df8cf660022eb72485e502437b90f414a61dc3a7e5aa70b52f7da2bb9c4a2764", func := "loop.example/g03015/laws.FnExactInstance", spec := "fnExactInstance", unfollowed := true, recurses := true, apart := false, narrowed := true }
def FnExactInstanceUptoSaid : Prop := fnExactInstanceUptoRow.holds Try.pinned (OpenSpec.upto fnExactInstanceSpec)

/-- 'laws.FnExactExtend', WHERE WHAT IT READS IS OF BULK AT MOST 1048576: true; the input reads as it did. -/
def fnExactExtendUptoRow : OpenClaim := { program := "ytlmlfkjdgnpmjaa", sum := "df8cf660022eb72485e502437b90f414a61dc3a7e5aa70b52f7da2bb9c4a2764", func := "loop.example/g03015/laws.FnExactExtend", spec := "fnExactExtend", inPlace := ["slices.overlaps[loop.example/g03015/impl.Pair]"], unfollowed := true, recurses := true, apart := false, narrowed := true }
def FnExactExtendUptoSaid : Prop := fnExactExtendUptoRow.holds Try.pinned (OpenSpec.upto fnExactExtendSpec)

/-- 'laws.FnExactAddFact', WHERE WHAT IT READS IS OF BULK AT MOST 1048576: true; the input reads as it did. -/
def fnExactAddFactUptoRow : OpenClaim := { program := "ytlmlfkjdgnpmjaa", sum := "df8cf660022eb72485e502437b90f414a61dc3a7e5aa70b52f7da2bb9c4a2764", func := "loop.example/g03015/laws.FnExactAddFact", spec := "fnExactAddFact", unfollowed := true, recurses := true, apart := false, narrowed := true }
def FnExactAddFactUptoSaid : Prop := fnExactAddFactUptoRow.holds Try.pinned (OpenSpec.upto fnExactAddFactSpec)

/-- 'laws.FnExactRemoveFact', WHERE WHAT IT READS IS OF BULK AT MOST 1048576: true; the input reads as it did. -/
def fnExactRemoveFactUptoRow : OpenClaim := { program := "ytlmlfkjdgnpmjaa", sum := "df8cf660022eb72485e502437b90f414a61dc3a7e5aa70b52f7da2bb9c4a2764", func := "loop.example/g03015/laws.FnExactRemoveFact", spec := "fnExactRemoveFact", unfollowed := true, recurses := true, apart := false, narrowed := true }
def FnExactRemoveFactUptoSaid : Prop := fnExactRemoveFactUptoRow.holds Try.pinned (OpenSpec.upto fnExactRemoveFactSpec)

end Rows
end Go.Proofs.Ytlmlfkjdgnpmjaa
