/-
  No cell of these rows narrows 'for every input' (looked for: loops, veiled, ifaces, maps, wideKeys, modest, calm, conditions, laid).
  DERIVED. THE GIVEN ROWS OF THIS SEAT. 10 by the template 'for every input the law returns true; each argument reads behind the call as it read before'; 0 by the template 'total and deterministic' (their statements: YtfffboofmccfhaaTotals.lean).
  GIVEN WITH THE SEED: the statements are not yours to turn. If you find one false, say at which input.
  Laid BY PROGRAM, IN A SANDBOX (cutbox-rows.mjs): the forced cells as the released guide's own fill.sh prints them over the translation e6c8446b1d1923e3… (all of the seat's roots in one cut). By AI agents, Wed Nov 11 2026. No macro, syntax, notation, axiom, sorry.
-/
import Derived.Test.YtfffboofmccfhaaChecked
import GoSem.Claim
import GoSem.ClaimJoined
import GoSem.ClaimMapViews
import Derived.JoinedTies
import Derived.KernelRfl
namespace Go.Proofs.Ytfffboofmccfhaa
/- THE CELL 'sum', in the pinned program and in every row, IS THE sha256 OF THE DUMP (.gsa) THAT YtfffboofmccfhaaProg.lean LOADS. Nothing in Lean hashes anything: it is a label: what it is worth is what the hold of that sum in a sandbox is worth. -/
noncomputable def Try.pinned : Pinned := { name := "ytfffboofmccfhaa", sum := "e6c8446b1d1923e3420764178f846526d08ebe49460a1752678bd1745e524239", checked := Try.checked }
namespace Rows
def none {H : Type} : Left H := { results := [], args := [] }

/-- 'laws.FnExactIsCond': WHATEVER THE INPUT: true; the input reads as it did. -/
def fnExactIsCondSpec : ChangeSpec := { name := "fnExactIsCond", fn := fun _ => fun
  | [d] => { results := [.lit (.bool true)], args := [d] }
  | _ => none }
def fnExactIsCondRow : OpenClaim := { program := "ytfffboofmccfhaa", sum := "e6c8446b1d1923e3420764178f846526d08ebe49460a1752678bd1745e524239", func := "loop.example/g03015/laws.FnExactIsCond", spec := "fnExactIsCond", unfollowed := true, recurses := true, apart := false }
def FnExactIsCondSaid : Prop := fnExactIsCondRow.holds Try.pinned (OpenSpec.ofChange fnExactIsCondSpec)

/-- ITS FALSE NEIGHBOUR: 'it returns false'. Refute it at one input. -/
def fnExactIsCondWrong : ChangeSpec := { name := "fnExactIsCond", fn := fun _ => fun
  | [d] => { results := [.lit (.bool false)], args := [d] }
  | _ => none }
def FnExactIsCondWrongFalsely : Prop := fnExactIsCondRow.holds Try.pinned (OpenSpec.ofChange fnExactIsCondWrong)

/-- 'laws.FnExactIsTest': WHATEVER THE INPUT: true; the input reads as it did. -/
def fnExactIsTestSpec : ChangeSpec := { name := "fnExactIsTest", fn := fun _ => fun
  | [d] => { results := [.lit (.bool true)], args := [d] }
  | _ => none }
def fnExactIsTestRow : OpenClaim := { program := "ytfffboofmccfhaa", sum := "e6c8446b1d1923e3420764178f846526d08ebe49460a1752678bd1745e524239", func := "loop.example/g03015/laws.FnExactIsTest", spec := "fnExactIsTest", apart := false }
def FnExactIsTestSaid : Prop := fnExactIsTestRow.holds Try.pinned (OpenSpec.ofChange fnExactIsTestSpec)

/-- ITS FALSE NEIGHBOUR: 'it returns false'. Refute it at one input. -/
def fnExactIsTestWrong : ChangeSpec := { name := "fnExactIsTest", fn := fun _ => fun
  | [d] => { results := [.lit (.bool false)], args := [d] }
  | _ => none }
def FnExactIsTestWrongFalsely : Prop := fnExactIsTestRow.holds Try.pinned (OpenSpec.ofChange fnExactIsTestWrong)

/-- 'laws.FnExactCondVars': WHATEVER THE INPUT: true; the input reads as it did. -/
def fnExactCondVarsSpec : ChangeSpec := { name := "fnExactCondVars", fn := fun _ => fun
  | [d] => { results := [.lit (.bool true)], args := [d] }
  | _ => none }
def fnExactCondVarsRow : OpenClaim := { program := "ytfffboofmccfhaa", sum := "e6c8446b1d1923e3420764178f846526d08ebe49460a1752678bd1745e524239", func := "loop.example/g03015/laws.FnExactCondVars", spec := "fnExactCondVars", recurses := true, apart := false }
def FnExactCondVarsSaid : Prop := fnExactCondVarsRow.holds Try.pinned (OpenSpec.ofChange fnExactCondVarsSpec)

/-- ITS FALSE NEIGHBOUR: 'it returns false'. Refute it at one input. -/
def fnExactCondVarsWrong : ChangeSpec := { name := "fnExactCondVars", fn := fun _ => fun
  | [d] => { results := [.lit (.bool false)], args := [d] }
  | _ => none }
def FnExactCondVarsWrongFalsely : Prop := fnExactCondVarsRow.holds Try.pinned (OpenSpec.ofChange fnExactCondVarsWrong)

/-- 'laws.FnExactHoldsTest': WHATEVER THE INPUT: true; the input reads as it did. -/
def fnExactHoldsTestSpec : ChangeSpec := { name := "fnExactHoldsTest", fn := fun _ => fun
  | [d1, d2] => { results := [.lit (.bool true)], args := [d1, d2] }
  | _ => none }
def fnExactHoldsTestRow : OpenClaim := { program := "ytfffboofmccfhaa", sum := "e6c8446b1d1923e3420764178f846526d08ebe49460a1752678bd1745e524239", func := "loop.example/g03015/laws.FnExactHoldsTest", spec := "fnExactHoldsTest", unfollowed := true, recurses := true, apart := false }
def FnExactHoldsTestSaid : Prop := fnExactHoldsTestRow.holds Try.pinned (OpenSpec.ofChange fnExactHoldsTestSpec)

/-- ITS FALSE NEIGHBOUR: 'it returns false'. Refute it at one input. -/
def fnExactHoldsTestWrong : ChangeSpec := { name := "fnExactHoldsTest", fn := fun _ => fun
  | [d1, d2] => { results := [.lit (.bool false)], args := [d1, d2] }
  | _ => none }
def FnExactHoldsTestWrongFalsely : Prop := fnExactHoldsTestRow.holds Try.pinned (OpenSpec.ofChange fnExactHoldsTestWrong)

/-- 'laws.FnExactMatchingFacts': WHATEVER THE INPUT: true; the input reads as it did. -/
def fnExactMatchingFactsSpec : ChangeSpec := { name := "fnExactMatchingFacts", fn := fun _ => fun
  | [d1, d2, d3] => { results := [.lit (.bool true)], args := [d1, d2, d3] }
  | _ => none }
def fnExactMatchingFactsRow : OpenClaim := { program := "ytfffboofmccfhaa", sum := "e6c8446b1d1923e3420764178f846526d08ebe49460a1752678bd1745e524239", func := "loop.example/g03015/laws.FnExactMatchingFacts", spec := "fnExactMatchingFacts", unfollowed := true, recurses := true, apart := false }
def FnExactMatchingFactsSaid : Prop := fnExactMatchingFactsRow.holds Try.pinned (OpenSpec.ofChange fnExactMatchingFactsSpec)

/-- ITS FALSE NEIGHBOUR: 'it returns false'. Refute it at one input. -/
def fnExactMatchingFactsWrong : ChangeSpec := { name := "fnExactMatchingFacts", fn := fun _ => fun
  | [d1, d2, d3] => { results := [.lit (.bool false)], args := [d1, d2, d3] }
  | _ => none }
def FnExactMatchingFactsWrongFalsely : Prop := fnExactMatchingFactsRow.holds Try.pinned (OpenSpec.ofChange fnExactMatchingFactsWrong)

/-- 'laws.FnExactFormatCond': WHATEVER THE INPUT: true; the input reads as it did. -/
def fnExactFormatCondSpec : ChangeSpec := { name := "fnExactFormatCond", fn := fun _ => fun
  | [d] => { results := [.lit (.bool true)], args := [d] }
  | _ => none }
def fnExactFormatCondRow : OpenClaim := { program := "ytfffboofmccfhaa", sum := "e6c8446b1d1923e3420764178f846526d08ebe49460a1752678bd1745e524239", func := "loop.example/g03015/laws.FnExactFormatCond", spec := "fnExactFormatCond", inPlace := ["internal/abi.NoEscape", "internal/bytealg.MakeNoZero"], unfollowed := true, recurses := true, apart := false }
def FnExactFormatCondSaid : Prop := fnExactFormatCondRow.holds Try.pinned (OpenSpec.ofChange fnExactFormatCondSpec)

/-- ITS FALSE NEIGHBOUR: 'it returns false'. Refute it at one input. -/
def fnExactFormatCondWrong : ChangeSpec := { name := "fnExactFormatCond", fn := fun _ => fun
  | [d] => { results := [.lit (.bool false)], args := [d] }
  | _ => none }
def FnExactFormatCondWrongFalsely : Prop := fnExactFormatCondRow.holds Try.pinned (OpenSpec.ofChange fnExactFormatCondWrong)

/-- 'laws.FnExactSameCond': WHATEVER THE INPUT: true; the input reads as it did. -/
def fnExactSameCondSpec : ChangeSpec := { name := "fnExactSameCond", fn := fun _ => fun
  | [d1, d2] => { results := [.lit (.bool true)], args := [d1, d2] }
  | _ => none }
def fnExactSameCondRow : OpenClaim := { program := "ytfffboofmccfhaa", sum := "e6c8446b1d1923e3420764178f846526d08ebe49460a1752678bd1745e524239", func := "loop.example/g03015/laws.FnExactSameCond", spec := "fnExactSameCond", apart := false }
def FnExactSameCondSaid : Prop := fnExactSameCondRow.holds Try.pinned (OpenSpec.ofChange fnExactSameCondSpec)

/-- ITS FALSE NEIGHBOUR: 'it returns false'. Refute it at one input. -/
def fnExactSameCondWrong : ChangeSpec := { name := "fnExactSameCond", fn := fun _ => fun
  | [d1, d2] => { results := [.lit (.bool false)], args := [d1, d2] }
  | _ => none }
def FnExactSameCondWrongFalsely : Prop := fnExactSameCondRow.holds Try.pinned (OpenSpec.ofChange fnExactSameCondWrong)

/-- 'laws.FnExactRenameCond': WHATEVER THE INPUT: true; the input reads as it did. -/
def fnExactRenameCondSpec : ChangeSpec := { name := "fnExactRenameCond", fn := fun _ => fun
  | [d1, d2] => { results := [.lit (.bool true)], args := [d1, d2] }
  | _ => none }
def fnExactRenameCondRow : OpenClaim := { program := "ytfffboofmccfhaa", sum := "e6c8446b1d1923e3420764178f846526d08ebe49460a1752678bd1745e524239", func := "loop.example/g03015/laws.FnExactRenameCond", spec := "fnExactRenameCond", apart := false }
def FnExactRenameCondSaid : Prop := fnExactRenameCondRow.holds Try.pinned (OpenSpec.ofChange fnExactRenameCondSpec)

/-- ITS FALSE NEIGHBOUR: 'it returns false'. Refute it at one input. -/
def fnExactRenameCondWrong : ChangeSpec := { name := "fnExactRenameCond", fn := fun _ => fun
  | [d1, d2] => { results := [.lit (.bool false)], args := [d1, d2] }
  | _ => none }
def FnExactRenameCondWrongFalsely : Prop := fnExactRenameCondRow.holds Try.pinned (OpenSpec.ofChange fnExactRenameCondWrong)

/-- 'laws.FnTests': WHATEVER THE INPUT: true; the input reads as it did. -/
def fnTestsSpec : ChangeSpec := { name := "fnTests", fn := fun _ => fun
  | [d] => { results := [.lit (.bool true)], args := [d] }
  | _ => none }
def fnTestsRow : OpenClaim := { program := "ytfffboofmccfhaa", sum := "e6c8446b1d1923e3420764178f846526d08ebe49460a1752678bd1745e524239", func := "loop.example/g03015/laws.FnTests", spec := "fnTests", unfollowed := true, recurses := true, apart := false }
def FnTestsSaid : Prop := fnTestsRow.holds Try.pinned (OpenSpec.ofChange fnTestsSpec)

/-- ITS FALSE NEIGHBOUR: 'it returns false'. Refute it at one input. -/
def fnTestsWrong : ChangeSpec := { name := "fnTests", fn := fun _ => fun
  | [d] => { results := [.lit (.bool false)], args := [d] }
  | _ => none }
def FnTestsWrongFalsely : Prop := fnTestsRow.holds Try.pinned (OpenSpec.ofChange fnTestsWrong)

/-- 'laws.FnExactVarsOf': WHATEVER THE INPUT: true; the input reads as it did. -/
def fnExactVarsOfSpec : ChangeSpec := { name := "fnExactVarsOf", fn := fun _ => fun
  | [d] => { results := [.lit (.bool true)], args := [d] }
  | _ => none }
def fnExactVarsOfRow : OpenClaim := { program := "ytfffboofmccfhaa", sum := "e6c8446b1d1923e3420764178f846526d08ebe49460a1752678bd1745e524239", func := "loop.example/g03015/laws.FnExactVarsOf", spec := "fnExactVarsOf", recurses := true, apart := false }
def FnExactVarsOfSaid : Prop := fnExactVarsOfRow.holds Try.pinned (OpenSpec.ofChange fnExactVarsOfSpec)

/-- ITS FALSE NEIGHBOUR: 'it returns false'. Refute it at one input. -/
def fnExactVarsOfWrong : ChangeSpec := { name := "fnExactVarsOf", fn := fun _ => fun
  | [d] => { results := [.lit (.bool false)], args := [d] }
  | _ => none }
def FnExactVarsOfWrongFalsely : Prop := fnExactVarsOfRow.holds Try.pinned (OpenSpec.ofChange fnExactVarsOfWrong)

/- THE SECOND FORM. 'bulk': how many values and letters a reading holds, each counted each time it is reached (what is shared counts as often as it is met; a slice's spare places count too). A statement '..UptoSaid' is the law's where the arguments, and the package variables that the reading takes, are together of bulk at most 1048576: NARROWER than '..Said'. Prove '..Said' where nothing that the law and all that it calls make is longer than what came in: it says more and counts as full. Else prove '..UptoSaid'. A law counts once. -/
mutual
def uptoBulk {H : Type} : DataW H → Nat
  | .lit (.string bytes) => bytes.length + 1
  | .lit _ => 1
  | .nil => 1
  | .ptr d => uptoBulk d + 1
  | .slice elems spare => uptoBulkAll elems + uptoBulkAll spare + 1
  | .agg parts => uptoBulkAll parts + 1
  | .iface _ d => uptoBulk d + 1
  | .map entries => uptoBulkEntries entries + 1
  | .held _ => 1
def uptoBulkAll {H : Type} : List (DataW H) → Nat
  | [] => 0
  | d :: r => uptoBulk d + uptoBulkAll r
def uptoBulkEntries {H : Type} : List (Lit × DataW H) → Nat
  | [] => 0
  | x :: r => uptoBulkEntry x + uptoBulkEntries r
def uptoBulkEntry {H : Type} : Lit × DataW H → Nat
  | (.string bytes, d) => bytes.length + uptoBulk d + 1
  | (_, d) => uptoBulk d + 1
 end
def uptoSmall : (H : Type) → List (DataW H) → Bool := fun _ ds => decide (uptoBulkAll ds ≤ 1048576)
def OpenSpec.upto (s : _root_.Go.ChangeSpec) : _root_.Go.OpenSpec := { _root_.Go.OpenSpec.ofChange s with cond := some uptoSmall }

/-- 'laws.FnExactIsCond', WHERE WHAT IT READS IS OF BULK AT MOST 1048576: true; the input reads as it did. -/
def fnExactIsCondUptoRow : OpenClaim := { program := "ytfffboofmccfhaa", sum := "e6c8446b1d1923e3420764178f846526d08ebe49460a1752678bd1745e524239", func := "loop.example/g03015/laws.FnExactIsCond", spec := "fnExactIsCond", unfollowed := true, recurses := true, apart := false, narrowed := true }
def FnExactIsCondUptoSaid : Prop := fnExactIsCondUptoRow.holds Try.pinned (OpenSpec.upto fnExactIsCondSpec)

/-- 'laws.FnExactIsTest', WHERE WHAT IT READS IS OF BULK AT MOST 1048576: true; the input reads as it did. -/
def fnExactIsTestUptoRow : OpenClaim := { program := "ytfffboofmccfhaa", sum := "e6c8446b1d1923e3420764178f846526d08ebe49460a1752678bd1745e524239", func := "loop.example/g03015/laws.FnExactIsTest", spec := "fnExactIsTest", apart := false, narrowed := true }
def FnExactIsTestUptoSaid : Prop := fnExactIsTestUptoRow.holds Try.pinned (OpenSpec.upto fnExactIsTestSpec)

/-- 'laws.FnExactCondVars', WHERE WHAT IT READS IS OF BULK AT MOST 1048576: true; the input reads as it did. -/
def fnExactCondVarsUptoRow : OpenClaim := { program := "ytfffboofmccfhaa", sum := "e6c8446b1d1923e3420764178f846526d08ebe49460a1752678bd1745e524239", func := "loop.example/g03015/laws.FnExactCondVars", spec := "fnExactCondVars", recurses := true, apart := false, narrowed := true }
def FnExactCondVarsUptoSaid : Prop := fnExactCondVarsUptoRow.holds Try.pinned (OpenSpec.upto fnExactCondVarsSpec)

/-- 'laws.FnExactHoldsTest', WHERE WHAT IT READS IS OF BULK AT MOST 1048576: true; the input reads as it did. -/
def fnExactHoldsTestUptoRow : OpenClaim := { program := "ytfffboofmccfhaa", sum := "e6c8446b1d1923e3420764178f846526d08ebe49460a1752678bd1745e524239", func := "loop.example/g03015/laws.FnExactHoldsTest", spec := "fnExactHoldsTest", unfollowed := true, recurses := true, apart := false, narrowed := true }
def FnExactHoldsTestUptoSaid : Prop := fnExactHoldsTestUptoRow.holds Try.pinned (OpenSpec.upto fnExactHoldsTestSpec)

/-- 'laws.FnExactMatchingFacts', WHERE WHAT IT READS IS OF BULK AT MOST 1048576: true; the input reads as it did. -/
def fnExactMatchingFactsUptoRow : OpenClaim := { program := "ytfffboofmccfhaa", sum := "e6c8446b1d1923e3420764178f846526d08ebe49460a1752678bd1745e524239", func := "loop.example/g03015/laws.FnExactMatchingFacts", spec := "fnExactMatchingFacts", unfollowed := true, recurses := true, apart := false, narrowed := true }
def FnExactMatchingFactsUptoSaid : Prop := fnExactMatchingFactsUptoRow.holds Try.pinned (OpenSpec.upto fnExactMatchingFactsSpec)

/-- 'laws.FnExactFormatCond', WHERE WHAT IT READS IS OF BULK AT MOST 1048576: true; the input reads as it did. -/
def fnExactFormatCondUptoRow : OpenClaim := { program := "ytfffboofmccfhaa", sum := "e6c8446b1d1923e3420764178f846526d08ebe49460a1752678bd1745e524239", func := "loop.example/g03015/laws.FnExactFormatCond", spec := "fnExactFormatCond", inPlace := ["internal/abi.NoEscape", "internal/bytealg.MakeNoZero"], unfollowed := true, recurses := true, apart := false, narrowed := true }
def FnExactFormatCondUptoSaid : Prop := fnExactFormatCondUptoRow.holds Try.pinned (OpenSpec.upto fnExactFormatCondSpec)

/-- 'laws.FnExactSameCond', WHERE WHAT IT READS IS OF BULK AT MOST 1048576: true; the input reads as it did. -/
def fnExactSameCondUptoRow : OpenClaim := { program := "ytfffboofmccfhaa", sum := "e6c8446b1d1923e3420764178f846526d08ebe49460a1752678bd1745e524239", func := "loop.example/g03015/laws.FnExactSameCond", spec := "fnExactSameCond", apart := false, narrowed := true }
def FnExactSameCondUptoSaid : Prop := fnExactSameCondUptoRow.holds Try.pinned (OpenSpec.upto fnExactSameCondSpec)

/-- 'laws.FnExactRenameCond', WHERE WHAT IT READS IS OF BULK AT MOST 1048576: true; the input reads as it did. -/
def fnExactRenameCondUptoRow : OpenClaim := { program := "ytfffboofmccfhaa", sum := "e6c8446b1d1923e3420764178f846526d08ebe49460a1752678bd1745e524239", func := "loop.example/g03015/laws.FnExactRenameCond", spec := "fnExactRenameCond", apart := false, narrowed := true }
def FnExactRenameCondUptoSaid : Prop := fnExactRenameCondUptoRow.holds Try.pinned (OpenSpec.upto fnExactRenameCondSpec)

/-- 'laws.FnTests', WHERE WHAT IT READS IS OF BULK AT MOST 1048576: true; the input reads as it did. -/
def fnTestsUptoRow : OpenClaim := { program := "ytfffboofmccfhaa", sum := "e6c8446b1d1923e3420764178f846526d08ebe49460a1752678bd1745e524239", func := "loop.example/g03015/laws.FnTests", spec := "fnTests", unfollowed := true, recurses := true, apart := false, narrowed := true }
def FnTestsUptoSaid : Prop := fnTestsUptoRow.holds Try.pinned (OpenSpec.upto fnTestsSpec)

/-- 'laws.FnExactVarsOf', WHERE WHAT IT READS IS OF BULK AT MOST 1048576: true; the input reads as it did. -/
def fnExactVarsOfUptoRow : OpenClaim := { program := "ytfffboofmccfhaa", sum := "e6c8446b1d1923e3420764178f846526d08ebe49460a1752678bd1745e524239", func := "loop.example/g03015/laws.FnExactVarsOf", spec := "fnExactVarsOf", recurses := true, apart := false, narrowed := true }
def FnExactVarsOfUptoSaid : Prop := fnExactVarsOfUptoRow.holds Try.pinned (OpenSpec.upto fnExactVarsOfSpec)

end Rows
end Go.Proofs.Ytfffboofmccfhaa
