/-
  No cell of these rows narrows 'for every input' (looked for: loops, veiled, ifaces, maps, wideKeys, modest, calm, conditions, laid).
  DERIVED. THE GIVEN ROWS OF THIS SEAT. 5 by the template 'for every input the law returns true; each argument reads behind the call as it read before'; 0 by the template 'total and deterministic' (their statements: YtoindmahilbalaaTotals.lean).
  GIVEN WITH THE SEED: the statements are not yours to turn. If you find one false, say at which input.
  Laid BY PROGRAM, IN A SANDBOX (cutbox-rows.mjs): the forced cells as the released guide's own fill.sh prints them over the translation 2a28a7b1bd4db640… (all of the seat's roots in one cut). By AI agents, Wed Nov 11 2026. No macro, syntax, notation, axiom, sorry.
-/
import Derived.Test.YtoindmahilbalaaChecked
import GoSem.Claim
import GoSem.ClaimJoined
import GoSem.ClaimMapViews
import Derived.JoinedTies
import Derived.KernelRfl
namespace Go.Proofs.Ytoindmahilbalaa
/- THE CELL 'sum', in the pinned program and in every row, IS THE sha256 OF THE DUMP (.gsa) THAT YtoindmahilbalaaProg.lean LOADS. Nothing in Lean hashes anything: it is a label: what it is worth is what the hold of that sum in a sandbox is worth. -/
noncomputable def Try.pinned : Pinned := { name := "ytoindmahilbalaa", sum := "2a28a7b1bd4db64000ed7be49188f59a50405e3d50b41377f40febff2545f4c3", checked := Try.checked }
namespace Rows
def none {H : Type} : Left H := { results := [], args := [] }

/-- 'laws.FnExactExtend': WHATEVER THE INPUT: true; the input reads as it did. -/
def fnExactExtendSpec : ChangeSpec := { name := "fnExactExtend", fn := fun _ => fun
  | [d1, d2, d3] => { results := [.lit (.bool true)], args := [d1, d2, d3] }
  | _ => none }
def fnExactExtendRow : OpenClaim := { program := "ytoindmahilbalaa", sum := "2a28a7b1bd4db64000ed7be49188f59a50405e3d50b41377f40febff2545f4c3", func := "loop.example/g03015/laws.FnExactExtend", spec := "fnExactExtend", inPlace := ["slices.overlaps[loop.example/g03015/impl.Pair]"], unfollowed := true, recurses := true, apart := false }
def FnExactExtendSaid : Prop := fnExactExtendRow.holds Try.pinned (OpenSpec.ofChange fnExactExtendSpec)

/-- ITS FALSE NEIGHBOUR: 'it returns false'. Refute it at one input. -/
def fnExactExtendWrong : ChangeSpec := { name := "fnExactExtend", fn := fun _ => fun
  | [d1, d2, d3] => { results := [.lit (.bool false)], args := [d1, d2, d3] }
  | _ => none }
def FnExactExtendWrongFalsely : Prop := fnExactExtendRow.holds Try.pinned (OpenSpec.ofChange fnExactExtendWrong)

/-- 'laws.FnExactCompareTokens': WHATEVER THE INPUT: true; the input reads as it did. -/
def fnExactCompareTokensSpec : ChangeSpec := { name := "fnExactCompareTokens", fn := fun _ => fun
  | [d1, d2] => { results := [.lit (.bool true)], args := [d1, d2] }
  | _ => none }
def fnExactCompareTokensRow : OpenClaim := { program := "ytoindmahilbalaa", sum := "2a28a7b1bd4db64000ed7be49188f59a50405e3d50b41377f40febff2545f4c3", func := "loop.example/g03015/laws.FnExactCompareTokens", spec := "fnExactCompareTokens", unfollowed := true, recurses := true, apart := false }
def FnExactCompareTokensSaid : Prop := fnExactCompareTokensRow.holds Try.pinned (OpenSpec.ofChange fnExactCompareTokensSpec)

/-- ITS FALSE NEIGHBOUR: 'it returns false'. Refute it at one input. -/
def fnExactCompareTokensWrong : ChangeSpec := { name := "fnExactCompareTokens", fn := fun _ => fun
  | [d1, d2] => { results := [.lit (.bool false)], args := [d1, d2] }
  | _ => none }
def FnExactCompareTokensWrongFalsely : Prop := fnExactCompareTokensRow.holds Try.pinned (OpenSpec.ofChange fnExactCompareTokensWrong)

/-- 'laws.FnExactSameMatch': WHATEVER THE INPUT: true; the input reads as it did. -/
def fnExactSameMatchSpec : ChangeSpec := { name := "fnExactSameMatch", fn := fun _ => fun
  | [d1, d2] => { results := [.lit (.bool true)], args := [d1, d2] }
  | _ => none }
def fnExactSameMatchRow : OpenClaim := { program := "ytoindmahilbalaa", sum := "2a28a7b1bd4db64000ed7be49188f59a50405e3d50b41377f40febff2545f4c3", func := "loop.example/g03015/laws.FnExactSameMatch", spec := "fnExactSameMatch", unfollowed := true, recurses := true, apart := false }
def FnExactSameMatchSaid : Prop := fnExactSameMatchRow.holds Try.pinned (OpenSpec.ofChange fnExactSameMatchSpec)

/-- ITS FALSE NEIGHBOUR: 'it returns false'. Refute it at one input. -/
def fnExactSameMatchWrong : ChangeSpec := { name := "fnExactSameMatch", fn := fun _ => fun
  | [d1, d2] => { results := [.lit (.bool false)], args := [d1, d2] }
  | _ => none }
def FnExactSameMatchWrongFalsely : Prop := fnExactSameMatchRow.holds Try.pinned (OpenSpec.ofChange fnExactSameMatchWrong)

/-- 'laws.FnExactFormatMatch': WHATEVER THE INPUT: true; the input reads as it did. -/
def fnExactFormatMatchSpec : ChangeSpec := { name := "fnExactFormatMatch", fn := fun _ => fun
  | [d] => { results := [.lit (.bool true)], args := [d] }
  | _ => none }
def fnExactFormatMatchRow : OpenClaim := { program := "ytoindmahilbalaa", sum := "2a28a7b1bd4db64000ed7be49188f59a50405e3d50b41377f40febff2545f4c3", func := "loop.example/g03015/laws.FnExactFormatMatch", spec := "fnExactFormatMatch", inPlace := ["internal/abi.NoEscape", "internal/bytealg.MakeNoZero"], unfollowed := true, recurses := true, apart := false }
def FnExactFormatMatchSaid : Prop := fnExactFormatMatchRow.holds Try.pinned (OpenSpec.ofChange fnExactFormatMatchSpec)

/-- ITS FALSE NEIGHBOUR: 'it returns false'. Refute it at one input. -/
def fnExactFormatMatchWrong : ChangeSpec := { name := "fnExactFormatMatch", fn := fun _ => fun
  | [d] => { results := [.lit (.bool false)], args := [d] }
  | _ => none }
def FnExactFormatMatchWrongFalsely : Prop := fnExactFormatMatchRow.holds Try.pinned (OpenSpec.ofChange fnExactFormatMatchWrong)

/-- 'laws.FnExactUsesFact': WHATEVER THE INPUT: true; the input reads as it did. -/
def fnExactUsesFactSpec : ChangeSpec := { name := "fnExactUsesFact", fn := fun _ => fun
  | [d1, d2] => { results := [.lit (.bool true)], args := [d1, d2] }
  | _ => none }
def fnExactUsesFactRow : OpenClaim := { program := "ytoindmahilbalaa", sum := "2a28a7b1bd4db64000ed7be49188f59a50405e3d50b41377f40febff2545f4c3", func := "loop.example/g03015/laws.FnExactUsesFact", spec := "fnExactUsesFact", apart := false }
def FnExactUsesFactSaid : Prop := fnExactUsesFactRow.holds Try.pinned (OpenSpec.ofChange fnExactUsesFactSpec)

/-- ITS FALSE NEIGHBOUR: 'it returns false'. Refute it at one input. -/
def fnExactUsesFactWrong : ChangeSpec := { name := "fnExactUsesFact", fn := fun _ => fun
  | [d1, d2] => { results := [.lit (.bool false)], args := [d1, d2] }
  | _ => none }
def FnExactUsesFactWrongFalsely : Prop := fnExactUsesFactRow.holds Try.pinned (OpenSpec.ofChange fnExactUsesFactWrong)

/- THE SECOND FORM. 'bulk': how many values and letters a reading holds, each counted each time it is reached (what is shared counts as often as it is met; a slice's spare places count too). A statement '..UptoSaid' is the law's where the arguments, and the package variables that the reading takes, are together of bulk at most 1048576: NARROWER than '..Said'. Prove '..Said' where nothing that the law and all that it calls make is longer than what came in: it says more and counts as full. Else prove '..UptoSaid'. A law counts once. -/
mutual
def uptoBulk {H : Type} : DataW H → Nat
  | .lit (.string bytes) => bytes.length + 1
  | .lit _ => 1
  | .nil => 1
  | .ptr d => uptoBulk d + 1
  | .slice elems spare => uptoBulkAll elems + uptoBulkAll spare + 1
  | .agg parts => uptoBulkAll parts + 1
  | .iface _ d => uptoBulk d + 1
  | .map entries => uptoBulkEntries entries + 1
  | .held _ => 1
def uptoBulkAll {H : Type} : List (DataW H) → Nat
  | [] => 0
  | d :: r => uptoBulk d + uptoBulkAll r
def uptoBulkEntries {H : Type} : List (Lit × DataW H) → Nat
  | [] => 0
  | x :: r => uptoBulkEntry x + uptoBulkEntries r
def uptoBulkEntry {H : Type} : Lit × DataW H → Nat
  | (.string bytes, d) => bytes.length + uptoBulk d + 1
  | (_, d) => uptoBulk d + 1
 end
def uptoSmall : (H : Type) → List (DataW H) → Bool := fun _ ds => decide (uptoBulkAll ds ≤ 1048576)
def OpenSpec.upto (s : _root_.Go.ChangeSpec) : _root_.Go.OpenSpec := { _root_.Go.OpenSpec.ofChange s with cond := some uptoSmall }

/-- 'laws.FnExactExtend', WHERE WHAT IT READS IS OF BULK AT MOST 1048576: true; the input reads as it did. -/
def fnExactExtendUptoRow : OpenClaim := { program := "ytoindmahilbalaa", sum := "2a28a7b1bd4db64000ed7be49188f59a50405e3d50b41377f40febff2545f4c3", func := "loop.example/g03015/laws.FnExactExtend", spec := "fnExactExtend", inPlace := ["slices.overlaps[loop.example/g03015/impl.Pair]"], unfollowed := true, recurses := true, apart := false, narrowed := true }
def FnExactExtendUptoSaid : Prop := fnExactExtendUptoRow.holds Try.pinned (OpenSpec.upto fnExactExtendSpec)

/-- 'laws.FnExactCompareTokens', WHERE WHAT IT READS IS OF BULK AT MOST 1048576: true; the input reads as it did. -/
def fnExactCompareTokensUptoRow : OpenClaim := { program := "ytoindmahilbalaa", sum := "2a28a7b1bd4db64000ed7be49188f59a50405e3d50b41377f40febff2545f4c3", func := "loop.example/g03015/laws.FnExactCompareTokens", spec := "fnExactCompareTokens", unfollowed := true, recurses := true, apart := false, narrowed := true }
def FnExactCompareTokensUptoSaid : Prop := fnExactCompareTokensUptoRow.holds Try.pinned (OpenSpec.upto fnExactCompareTokensSpec)

/-- 'laws.FnExactSameMatch', WHERE WHAT IT READS IS OF BULK AT MOST 1048576: true; the input reads as it did. -/
def fnExactSameMatchUptoRow : OpenClaim := { program := "ytoindmahilbalaa", sum := "2a28a7b1bd4db64000ed7be49188f59a50405e3d50b41377f40febff2545f4c3", func := "loop.example/g03015/laws.FnExactSameMatch", spec := "fnExactSameMatch", unfollowed := true, recurses := true, apart := false, narrowed := true }
def FnExactSameMatchUptoSaid : Prop := fnExactSameMatchUptoRow.holds Try.pinned (OpenSpec.upto fnExactSameMatchSpec)

/-- 'laws.FnExactFormatMatch', WHERE WHAT IT READS IS OF BULK AT MOST 1048576: true; the input reads as it did. -/
def fnExactFormatMatchUptoRow : OpenClaim := { program := "ytoindmahilbalaa", sum := "2a28a7b1bd4db64000ed7be49188f59a50405e3d50b41377f40febff2545f4c3", func := "loop.example/g03015/laws.FnExactFormatMatch", spec := "fnExactFormatMatch", inPlace := ["internal/abi.NoEscape", "internal/bytealg.MakeNoZero"], unfollowed := true, recurses := true, apart := false, narrowed := true }
def FnExactFormatMatchUptoSaid : Prop := fnExactFormatMatchUptoRow.holds Try.pinned (OpenSpec.upto fnExactFormatMatchSpec)

/-- 'laws.FnExactUsesFact', WHERE WHAT IT READS IS OF BULK AT MOST 1048576: true; the input reads as it did. -/
def fnExactUsesFactUptoRow : OpenClaim := { program := "ytoindmahilbalaa", sum := "2a28a7b1bd4db64000ed7be49188f59a50405e3d50b41377f40febff2545f4c3", func := "loop.example/g03015/laws.FnExactUsesFact", spec := "fnExactUsesFact", apart := false, narrowed := true }
def FnExactUsesFactUptoSaid : Prop := fnExactUsesFactUptoRow.holds Try.pinned (OpenSpec.upto fnExactUsesFactSpec)

end Rows
end Go.Proofs.Ytoindmahilbalaa
