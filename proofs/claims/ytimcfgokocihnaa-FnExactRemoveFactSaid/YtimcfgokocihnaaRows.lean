/-
  No cell of these rows narrows 'for every input' (looked for: loops, veiled, ifaces, maps, wideKeys, modest, calm, conditions, laid).
  DERIVED. THE GIVEN ROWS OF THIS SEAT. 12 by the template 'for every input the law returns true; each argument reads behind the call as it read before'; 0 by the template 'total and deterministic' (their statements: YtimcfgokocihnaaTotals.lean).
  GIVEN WITH THE SEED: the statements are not yours to turn. If you find one false, say at which input.
  Laid BY PROGRAM, IN A SANDBOX (cutbox-rows.mjs): the forced cells as the released guide's own fill.sh prints them over the translation 2c863f06c11d674a… (all of the seat's roots in one cut). By AI agents, Wed Nov 11 2026. No macro, syntax, notation, axiom, sorry.
-/
import Derived.Test.YtimcfgokocihnaaChecked
import GoSem.Claim
import GoSem.ClaimJoined
import GoSem.ClaimMapViews
import Derived.JoinedTies
import Derived.KernelRfl
namespace Go.Proofs.Ytimcfgokocihnaa
/- THE CELL 'sum', in the pinned program and in every row, IS THE sha256 OF THE DUMP (.gsa) THAT YtimcfgokocihnaaProg.lean LOADS. Nothing in Lean hashes anything: it is a label: what it is worth is what the hold of that sum in a sandbox is worth. -/
noncomputable def Try.pinned : Pinned := { name := "ytimcfgokocihnaa", sum := "2c863f06c11d674a92686a6a0414a8592ddff23c02e4c81147c3c55e452a3ff2", checked := Try.checked }
namespace Rows
def none {H : Type} : Left H := { results := [], args := [] }

/-- 'laws.FnExactIsAction': WHATEVER THE INPUT: true; the input reads as it did. -/
def fnExactIsActionSpec : ChangeSpec := { name := "fnExactIsAction", fn := fun _ => fun
  | [d] => { results := [.lit (.bool true)], args := [d] }
  | _ => none }
def fnExactIsActionRow : OpenClaim := { program := "ytimcfgokocihnaa", sum := "2c863f06c11d674a92686a6a0414a8592ddff23c02e4c81147c3c55e452a3ff2", func := "loop.example/g03015/laws.FnExactIsAction", spec := "fnExactIsAction", unfollowed := true, recurses := true, apart := false }
def FnExactIsActionSaid : Prop := fnExactIsActionRow.holds Try.pinned (OpenSpec.ofChange fnExactIsActionSpec)

/-- ITS FALSE NEIGHBOUR: 'it returns false'. Refute it at one input. -/
def fnExactIsActionWrong : ChangeSpec := { name := "fnExactIsAction", fn := fun _ => fun
  | [d] => { results := [.lit (.bool false)], args := [d] }
  | _ => none }
def FnExactIsActionWrongFalsely : Prop := fnExactIsActionRow.holds Try.pinned (OpenSpec.ofChange fnExactIsActionWrong)

/-- 'laws.FnExactBoundVars': WHATEVER THE INPUT: true; the input reads as it did. -/
def fnExactBoundVarsSpec : ChangeSpec := { name := "fnExactBoundVars", fn := fun _ => fun
  | [d1, d2] => { results := [.lit (.bool true)], args := [d1, d2] }
  | _ => none }
def fnExactBoundVarsRow : OpenClaim := { program := "ytimcfgokocihnaa", sum := "2c863f06c11d674a92686a6a0414a8592ddff23c02e4c81147c3c55e452a3ff2", func := "loop.example/g03015/laws.FnExactBoundVars", spec := "fnExactBoundVars", recurses := true, apart := false }
def FnExactBoundVarsSaid : Prop := fnExactBoundVarsRow.holds Try.pinned (OpenSpec.ofChange fnExactBoundVarsSpec)

/-- ITS FALSE NEIGHBOUR: 'it returns false'. Refute it at one input. -/
def fnExactBoundVarsWrong : ChangeSpec := { name := "fnExactBoundVars", fn := fun _ => fun
  | [d1, d2] => { results := [.lit (.bool false)], args := [d1, d2] }
  | _ => none }
def FnExactBoundVarsWrongFalsely : Prop := fnExactBoundVarsRow.holds Try.pinned (OpenSpec.ofChange fnExactBoundVarsWrong)

/-- 'laws.FnExactRuleVars': WHATEVER THE INPUT: true; the input reads as it did. -/
def fnExactRuleVarsSpec : ChangeSpec := { name := "fnExactRuleVars", fn := fun _ => fun
  | [d] => { results := [.lit (.bool true)], args := [d] }
  | _ => none }
def fnExactRuleVarsRow : OpenClaim := { program := "ytimcfgokocihnaa", sum := "2c863f06c11d674a92686a6a0414a8592ddff23c02e4c81147c3c55e452a3ff2", func := "loop.example/g03015/laws.FnExactRuleVars", spec := "fnExactRuleVars", recurses := true, apart := false }
def FnExactRuleVarsSaid : Prop := fnExactRuleVarsRow.holds Try.pinned (OpenSpec.ofChange fnExactRuleVarsSpec)

/-- ITS FALSE NEIGHBOUR: 'it returns false'. Refute it at one input. -/
def fnExactRuleVarsWrong : ChangeSpec := { name := "fnExactRuleVars", fn := fun _ => fun
  | [d] => { results := [.lit (.bool false)], args := [d] }
  | _ => none }
def FnExactRuleVarsWrongFalsely : Prop := fnExactRuleVarsRow.holds Try.pinned (OpenSpec.ofChange fnExactRuleVarsWrong)

/-- 'laws.FnExactFindRule': WHATEVER THE INPUT: true; the input reads as it did. -/
def fnExactFindRuleSpec : ChangeSpec := { name := "fnExactFindRule", fn := fun _ => fun
  | [d1, d2] => { results := [.lit (.bool true)], args := [d1, d2] }
  | _ => none }
def fnExactFindRuleRow : OpenClaim := { program := "ytimcfgokocihnaa", sum := "2c863f06c11d674a92686a6a0414a8592ddff23c02e4c81147c3c55e452a3ff2", func := "loop.example/g03015/laws.FnExactFindRule", spec := "fnExactFindRule", unfollowed := true, recurses := true, apart := false }
def FnExactFindRuleSaid : Prop := fnExactFindRuleRow.holds Try.pinned (OpenSpec.ofChange fnExactFindRuleSpec)

/-- ITS FALSE NEIGHBOUR: 'it returns false'. Refute it at one input. -/
def fnExactFindRuleWrong : ChangeSpec := { name := "fnExactFindRule", fn := fun _ => fun
  | [d1, d2] => { results := [.lit (.bool false)], args := [d1, d2] }
  | _ => none }
def FnExactFindRuleWrongFalsely : Prop := fnExactFindRuleRow.holds Try.pinned (OpenSpec.ofChange fnExactFindRuleWrong)

/-- 'laws.FnExactSpecificity': WHATEVER THE INPUT: true; the input reads as it did. -/
def fnExactSpecificitySpec : ChangeSpec := { name := "fnExactSpecificity", fn := fun _ => fun
  | [d] => { results := [.lit (.bool true)], args := [d] }
  | _ => none }
def fnExactSpecificityRow : OpenClaim := { program := "ytimcfgokocihnaa", sum := "2c863f06c11d674a92686a6a0414a8592ddff23c02e4c81147c3c55e452a3ff2", func := "loop.example/g03015/laws.FnExactSpecificity", spec := "fnExactSpecificity", apart := false }
def FnExactSpecificitySaid : Prop := fnExactSpecificityRow.holds Try.pinned (OpenSpec.ofChange fnExactSpecificitySpec)

/-- ITS FALSE NEIGHBOUR: 'it returns false'. Refute it at one input. -/
def fnExactSpecificityWrong : ChangeSpec := { name := "fnExactSpecificity", fn := fun _ => fun
  | [d] => { results := [.lit (.bool false)], args := [d] }
  | _ => none }
def FnExactSpecificityWrongFalsely : Prop := fnExactSpecificityRow.holds Try.pinned (OpenSpec.ofChange fnExactSpecificityWrong)

/-- 'laws.FnExactReadsOf': WHATEVER THE INPUT: true; the input reads as it did. -/
def fnExactReadsOfSpec : ChangeSpec := { name := "fnExactReadsOf", fn := fun _ => fun
  | [d] => { results := [.lit (.bool true)], args := [d] }
  | _ => none }
def fnExactReadsOfRow : OpenClaim := { program := "ytimcfgokocihnaa", sum := "2c863f06c11d674a92686a6a0414a8592ddff23c02e4c81147c3c55e452a3ff2", func := "loop.example/g03015/laws.FnExactReadsOf", spec := "fnExactReadsOf", recurses := true, apart := false }
def FnExactReadsOfSaid : Prop := fnExactReadsOfRow.holds Try.pinned (OpenSpec.ofChange fnExactReadsOfSpec)

/-- ITS FALSE NEIGHBOUR: 'it returns false'. Refute it at one input. -/
def fnExactReadsOfWrong : ChangeSpec := { name := "fnExactReadsOf", fn := fun _ => fun
  | [d] => { results := [.lit (.bool false)], args := [d] }
  | _ => none }
def FnExactReadsOfWrongFalsely : Prop := fnExactReadsOfRow.holds Try.pinned (OpenSpec.ofChange fnExactReadsOfWrong)

/-- 'laws.FnExactWritesOf': WHATEVER THE INPUT: true; the input reads as it did. -/
def fnExactWritesOfSpec : ChangeSpec := { name := "fnExactWritesOf", fn := fun _ => fun
  | [d] => { results := [.lit (.bool true)], args := [d] }
  | _ => none }
def fnExactWritesOfRow : OpenClaim := { program := "ytimcfgokocihnaa", sum := "2c863f06c11d674a92686a6a0414a8592ddff23c02e4c81147c3c55e452a3ff2", func := "loop.example/g03015/laws.FnExactWritesOf", spec := "fnExactWritesOf", recurses := true, apart := false }
def FnExactWritesOfSaid : Prop := fnExactWritesOfRow.holds Try.pinned (OpenSpec.ofChange fnExactWritesOfSpec)

/-- ITS FALSE NEIGHBOUR: 'it returns false'. Refute it at one input. -/
def fnExactWritesOfWrong : ChangeSpec := { name := "fnExactWritesOf", fn := fun _ => fun
  | [d] => { results := [.lit (.bool false)], args := [d] }
  | _ => none }
def FnExactWritesOfWrongFalsely : Prop := fnExactWritesOfRow.holds Try.pinned (OpenSpec.ofChange fnExactWritesOfWrong)

/-- 'laws.FnExactFormatAction': WHATEVER THE INPUT: true; the input reads as it did. -/
def fnExactFormatActionSpec : ChangeSpec := { name := "fnExactFormatAction", fn := fun _ => fun
  | [d] => { results := [.lit (.bool true)], args := [d] }
  | _ => none }
def fnExactFormatActionRow : OpenClaim := { program := "ytimcfgokocihnaa", sum := "2c863f06c11d674a92686a6a0414a8592ddff23c02e4c81147c3c55e452a3ff2", func := "loop.example/g03015/laws.FnExactFormatAction", spec := "fnExactFormatAction", inPlace := ["internal/abi.NoEscape", "internal/bytealg.MakeNoZero"], unfollowed := true, recurses := true, apart := false }
def FnExactFormatActionSaid : Prop := fnExactFormatActionRow.holds Try.pinned (OpenSpec.ofChange fnExactFormatActionSpec)

/-- ITS FALSE NEIGHBOUR: 'it returns false'. Refute it at one input. -/
def fnExactFormatActionWrong : ChangeSpec := { name := "fnExactFormatAction", fn := fun _ => fun
  | [d] => { results := [.lit (.bool false)], args := [d] }
  | _ => none }
def FnExactFormatActionWrongFalsely : Prop := fnExactFormatActionRow.holds Try.pinned (OpenSpec.ofChange fnExactFormatActionWrong)

/-- 'laws.FnExactSameRule': WHATEVER THE INPUT: true; the input reads as it did. -/
def fnExactSameRuleSpec : ChangeSpec := { name := "fnExactSameRule", fn := fun _ => fun
  | [d1, d2] => { results := [.lit (.bool true)], args := [d1, d2] }
  | _ => none }
def fnExactSameRuleRow : OpenClaim := { program := "ytimcfgokocihnaa", sum := "2c863f06c11d674a92686a6a0414a8592ddff23c02e4c81147c3c55e452a3ff2", func := "loop.example/g03015/laws.FnExactSameRule", spec := "fnExactSameRule", unfollowed := true, recurses := true, apart := false }
def FnExactSameRuleSaid : Prop := fnExactSameRuleRow.holds Try.pinned (OpenSpec.ofChange fnExactSameRuleSpec)

/-- ITS FALSE NEIGHBOUR: 'it returns false'. Refute it at one input. -/
def fnExactSameRuleWrong : ChangeSpec := { name := "fnExactSameRule", fn := fun _ => fun
  | [d1, d2] => { results := [.lit (.bool false)], args := [d1, d2] }
  | _ => none }
def FnExactSameRuleWrongFalsely : Prop := fnExactSameRuleRow.holds Try.pinned (OpenSpec.ofChange fnExactSameRuleWrong)

/-- 'laws.FnExactExtend': WHATEVER THE INPUT: true; the input reads as it did. -/
def fnExactExtendSpec : ChangeSpec := { name := "fnExactExtend", fn := fun _ => fun
  | [d1, d2, d3] => { results := [.lit (.bool true)], args := [d1, d2, d3] }
  | _ => none }
def fnExactExtendRow : OpenClaim := { program := "ytimcfgokocihnaa", sum := "2c863f06c11d674a92686a6a0414a8592ddff23c02e4c81147c3c55e452a3ff2", func := "loop.example/g03015/laws.FnExactExtend", spec := "fnExactExtend", inPlace := ["slices.overlaps[loop.example/g03015/impl.Pair]"], unfollowed := true, recurses := true, apart := false }
def FnExactExtendSaid : Prop := fnExactExtendRow.holds Try.pinned (OpenSpec.ofChange fnExactExtendSpec)

/-- ITS FALSE NEIGHBOUR: 'it returns false'. Refute it at one input. -/
def fnExactExtendWrong : ChangeSpec := { name := "fnExactExtend", fn := fun _ => fun
  | [d1, d2, d3] => { results := [.lit (.bool false)], args := [d1, d2, d3] }
  | _ => none }
def FnExactExtendWrongFalsely : Prop := fnExactExtendRow.holds Try.pinned (OpenSpec.ofChange fnExactExtendWrong)

/-- 'laws.FnExactAddFact': WHATEVER THE INPUT: true; the input reads as it did. -/
def fnExactAddFactSpec : ChangeSpec := { name := "fnExactAddFact", fn := fun _ => fun
  | [d1, d2] => { results := [.lit (.bool true)], args := [d1, d2] }
  | _ => none }
def fnExactAddFactRow : OpenClaim := { program := "ytimcfgokocihnaa", sum := "2c863f06c11d674a92686a6a0414a8592ddff23c02e4c81147c3c55e452a3ff2", func := "loop.example/g03015/laws.FnExactAddFact", spec := "fnExactAddFact", unfollowed := true, recurses := true, apart := false }
def FnExactAddFactSaid : Prop := fnExactAddFactRow.holds Try.pinned (OpenSpec.ofChange fnExactAddFactSpec)

/-- ITS FALSE NEIGHBOUR: 'it returns false'. Refute it at one input. -/
def fnExactAddFactWrong : ChangeSpec := { name := "fnExactAddFact", fn := fun _ => fun
  | [d1, d2] => { results := [.lit (.bool false)], args := [d1, d2] }
  | _ => none }
def FnExactAddFactWrongFalsely : Prop := fnExactAddFactRow.holds Try.pinned (OpenSpec.ofChange fnExactAddFactWrong)

/-- 'laws.FnExactRemoveFact': WHATEVER THE INPUT: true; the input reads as it did. -/
def fnExactRemoveFactSpec : ChangeSpec := { name := "fnExactRemoveFact", fn := fun _ => fun
  | [d1, d2] => { results := [.lit (.bool true)], args := [d1, d2] }
  | _ => none }
def fnExactRemoveFactRow : OpenClaim := { program := "ytimcfgokocihnaa", sum := "2c863f06c11d674a92686a6a0414a8592ddff23c02e4c81147c3c55e452a3ff2", func := "loop.example/g03015/laws.FnExactRemoveFact", spec := "fnExactRemoveFact", unfollowed := true, recurses := true, apart := false }
def FnExactRemoveFactSaid : Prop := fnExactRemoveFactRow.holds Try.pinned (OpenSpec.ofChange fnExactRemoveFactSpec)

/-- ITS FALSE NEIGHBOUR: 'it returns false'. Refute it at one input. -/
def fnExactRemoveFactWrong : ChangeSpec := { name := "fnExactRemoveFact", fn := fun _ => fun
  | [d1, d2] => { results := [.lit (.bool false)], args := [d1, d2] }
  | _ => none }
def FnExactRemoveFactWrongFalsely : Prop := fnExactRemoveFactRow.holds Try.pinned (OpenSpec.ofChange fnExactRemoveFactWrong)

/- THE SECOND FORM. 'bulk': how many values and letters a reading holds, each counted each time it is reached (what is shared counts as often as it is met; a slice's spare places count too). A statement '..UptoSaid' is the law's where the arguments, and the package variables that the reading takes, are together of bulk at most 1048576: NARROWER than '..Said'. Prove '..Said' where nothing that the law and all that it calls make is longer than what came in: it says more and counts as full. Else prove '..UptoSaid'. A law counts once. -/
mutual
def uptoBulk {H : Type} : DataW H → Nat
  | .lit (.string bytes) => bytes.length + 1
  | .lit _ => 1
  | .nil => 1
  | .ptr d => uptoBulk d + 1
  | .slice elems spare => uptoBulkAll elems + uptoBulkAll spare + 1
  | .agg parts => uptoBulkAll parts + 1
  | .iface _ d => uptoBulk d + 1
  | .map entries => uptoBulkEntries entries + 1
  | .held _ => 1
def uptoBulkAll {H : Type} : List (DataW H) → Nat
  | [] => 0
  | d :: r => uptoBulk d + uptoBulkAll r
def uptoBulkEntries {H : Type} : List (Lit × DataW H) → Nat
  | [] => 0
  | x :: r => uptoBulkEntry x + uptoBulkEntries r
def uptoBulkEntry {H : Type} : Lit × DataW H → Nat
  | (.string bytes, d) => bytes.length + uptoBulk d + 1
  | (_, d) => uptoBulk d + 1
 end
def uptoSmall : (H : Type) → List (DataW H) → Bool := fun _ ds => decide (uptoBulkAll ds ≤ 1048576)
def OpenSpec.upto (s : _root_.Go.ChangeSpec) : _root_.Go.OpenSpec := { _root_.Go.OpenSpec.ofChange s with cond := some uptoSmall }

/-- 'laws.FnExactIsAction', WHERE WHAT IT READS IS OF BULK AT MOST 1048576: true; the input reads as it did. -/
def fnExactIsActionUptoRow : OpenClaim := { program := "ytimcfgokocihnaa", sum := "2c863f06c11d674a92686a6a0414a8592ddff23c02e4c81147c3c55e452a3ff2", func := "loop.example/g03015/laws.FnExactIsAction", spec := "fnExactIsAction", unfollowed := true, recurses := true, apart := false, narrowed := true }
def FnExactIsActionUptoSaid : Prop := fnExactIsActionUptoRow.holds Try.pinned (OpenSpec.upto fnExactIsActionSpec)

/-- 'laws.FnExactBoundVars', WHERE WHAT IT READS IS OF BULK AT MOST 1048576: true; the input reads as it did. -/
def fnExactBoundVarsUptoRow : OpenClaim := { program := "ytimcfgokocihnaa", sum := "2c863f06c11d674a92686a6a0414a8592ddff23c02e4c81147c3c55e452a3ff2", func := "loop.example/g03015/laws.FnExactBoundVars", spec := "fnExactBoundVars", recurses := true, apart := false, narrowed := true }
def FnExactBoundVarsUptoSaid : Prop := fnExactBoundVarsUptoRow.holds Try.pinned (OpenSpec.upto fnExactBoundVarsSpec)

/-- 'laws.FnExactRuleVars', WHERE WHAT IT READS IS OF BULK AT MOST 1048576: true; the input reads as it did. -/
def fnExactRuleVarsUptoRow : OpenClaim := { program := "ytimcfgokocihnaa", sum := "2c863f06c11d674a92686a6a0414a8592ddff23c02e4c81147c3c55e452a3ff2", func := "loop.example/g03015/laws.FnExactRuleVars", spec := "fnExactRuleVars", recurses := true, apart := false, narrowed := true }
def FnExactRuleVarsUptoSaid : Prop := fnExactRuleVarsUptoRow.holds Try.pinned (OpenSpec.upto fnExactRuleVarsSpec)

/-- 'laws.FnExactFindRule', WHERE WHAT IT READS IS OF BULK AT MOST 1048576: true; the input reads as it did. -/
def fnExactFindRuleUptoRow : OpenClaim := { program := "ytimcfgokocihnaa", sum := "2c863f06c11d674a92686a6a0414a8592ddff23c02e4c81147c3c55e452a3ff2", func := "loop.example/g03015/laws.FnExactFindRule", spec := "fnExactFindRule", unfollowed := true, recurses := true, apart := false, narrowed := true }
def FnExactFindRuleUptoSaid : Prop := fnExactFindRuleUptoRow.holds Try.pinned (OpenSpec.upto fnExactFindRuleSpec)

/-- 'laws.FnExactSpecificity', WHERE WHAT IT READS IS OF BULK AT MOST 1048576: true; the input reads as it did. -/
def fnExactSpecificityUptoRow : OpenClaim := { program := "ytimcfgokocihnaa", sum := "2c863f06c11d674a92686a6a0414a8592ddff23c02e4c81147c3c55e452a3ff2", func := "loop.example/g03015/laws.FnExactSpecificity", spec := "fnExactSpecificity", apart := false, narrowed := true }
def FnExactSpecificityUptoSaid : Prop := fnExactSpecificityUptoRow.holds Try.pinned (OpenSpec.upto fnExactSpecificitySpec)

/-- 'laws.FnExactReadsOf', WHERE WHAT IT READS IS OF BULK AT MOST 1048576: true; the input reads as it did. -/
def fnExactReadsOfUptoRow : OpenClaim := { program := "ytimcfgokocihnaa", sum := "2c863f06c11d674a92686a6a0414a8592ddff23c02e4c81147c3c55e452a3ff2", func := "loop.example/g03015/laws.FnExactReadsOf", spec := "fnExactReadsOf", recurses := true, apart := false, narrowed := true }
def FnExactReadsOfUptoSaid : Prop := fnExactReadsOfUptoRow.holds Try.pinned (OpenSpec.upto fnExactReadsOfSpec)

/-- 'laws.FnExactWritesOf', WHERE WHAT IT READS IS OF BULK AT MOST 1048576: true; the input reads as it did. -/
def fnExactWritesOfUptoRow : OpenClaim := { program := "ytimcfgokocihnaa", sum := "2c863f06c11d674a92686a6a0414a8592ddff23c02e4c81147c3c55e452a3ff2", func := "loop.example/g03015/laws.FnExactWritesOf", spec := "fnExactWritesOf", recurses := true, apart := false, narrowed := true }
def FnExactWritesOfUptoSaid : Prop := fnExactWritesOfUptoRow.holds Try.pinned (OpenSpec.upto fnExactWritesOfSpec)

/-- 'laws.FnExactFormatAction', WHERE WHAT IT READS IS OF BULK AT MOST 1048576: true; the input reads as it did. -/
def fnExactFormatActionUptoRow : OpenClaim := { program := "ytimcfgokocihnaa", sum := "2c863f06c11d674a92686a6a0414a8592ddff23c02e4c81147c3c55e452a3ff2", func := "loop.example/g03015/laws.FnExactFormatAction", spec := "fnExactFormatAction", inPlace := ["internal/abi.NoEscape", "internal/bytealg.MakeNoZero"], unfollowed := true, recurses := true, apart := false, narrowed := true }
def FnExactFormatActionUptoSaid : Prop := fnExactFormatActionUptoRow.holds Try.pinned (OpenSpec.upto fnExactFormatActionSpec)

/-- 'laws.FnExactSameRule', WHERE WHAT IT READS IS OF BULK AT MOST 1048576: true; the input reads as it did. -/
def fnExactSameRuleUptoRow : OpenClaim := { program := "ytimcfgokocihnaa", sum := "2c863f06c11d674a92686a6a0414a8592ddff23c02e4c81147c3c55e452a3ff2", func := "loop.example/g03015/laws.FnExactSameRule", spec := "fnExactSameRule", unfollowed := true, recurses := true, apart := false, narrowed := true }
def FnExactSameRuleUptoSaid : Prop := fnExactSameRuleUptoRow.holds Try.pinned (OpenSpec.upto fnExactSameRuleSpec)

/-- 'laws.FnExactExtend', WHERE WHAT IT READS IS OF BULK AT MOST 1048576: true; the input reads as it did. -/
def fnExactExtendUptoRow : OpenClaim := { program := "ytimcfgokocihnaa", sum := "2c863f06c11d674a92686a6a0414a8592ddff23c02e4c81147c3c55e452a3ff2", func := "loop.example/g03015/laws.FnExactExtend", spec := "fnExactExtend", inPlace := ["slices.overlaps[loop.example/g03015/impl.Pair]"], unfollowed := true, recurses := true, apart := false, narrowed := true }
def FnExactExtendUptoSaid : Prop := fnExactExtendUptoRow.holds Try.pinned (OpenSpec.upto fnExactExtendSpec)

/-- 'laws.FnExactAddFact', WHERE WHAT IT READS IS OF BULK AT MOST 1048576: true; the input reads as it did. -/
def fnExactAddFactUptoRow : OpenClaim := { program := "ytimcfgokocihnaa", sum := "2c863f06c11d674a92686a6a0414a8592ddff23c02e4c81147c3c55e452a3ff2", func := "loop.example/g03015/laws.FnExactAddFact", spec := "fnExactAddFact", unfollowed := true, recurses := true, apart := false, narrowed := true }
def FnExactAddFactUptoSaid : Prop := fnExactAddFactUptoRow.holds Try.pinned (OpenSpec.upto fnExactAddFactSpec)

/-- 'laws.FnExactRemoveFact', WHERE WHAT IT READS IS OF BULK AT MOST 1048576: true; the input reads as it did. -/
def fnExactRemoveFactUptoRow : OpenClaim := { program := "ytimcfgokocihnaa", sum := "2c863f06c11d674a92686a6a0414a8592ddff23c02e4c81147c3c55e452a3ff2", func := "loop.example/g03015/laws.FnExactRemoveFact", spec := "fnExactRemoveFact", unfollowed := true, recurses := true, apart := false, narrowed := true }
def FnExactRemoveFactUptoSaid : Prop := fnExactRemoveFactUptoRow.holds Try.pinned (OpenSpec.upto fnExactRemoveFactSpec)

end Rows
end Go.Proofs.Ytimcfgokocihnaa
