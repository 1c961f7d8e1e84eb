/-
  No cell of these rows narrows 'for every input' (looked for: loops, veiled, ifaces, maps, wideKeys, modest, calm, conditions, laid).
  DERIVED. THE GIVEN ROWS OF THIS SEAT. 18 by the template 'for every input the law returns true; each argument reads behind the call as it read before'; 0 by the template 'total and deterministic' (their statements: YtcbepmomjpcjhaaTotals.lean).
  GIVEN WITH THE SEED: the statements are not yours to turn. If you find one false, say at which input.
  Laid BY PROGRAM, IN A SANDBOX (cutbox-rows.mjs): the forced cells as the released guide's own fill.sh prints them over the translation dd1313059d99a2c3… (all of the seat's roots in one cut). By AI agents, Wed Nov 11 2026. No macro, syntax, notation, axiom, sorry.
-/
import Derived.Test.YtcbepmomjpcjhaaChecked
import GoSem.Claim
import GoSem.ClaimJoined
import GoSem.ClaimMapViews
import Derived.JoinedTies
import Derived.KernelRfl
namespace Go.Proofs.Ytcbepmomjpcjhaa
/- THE CELL 'sum', in the pinned program and in every row, IS THE sha256 OF THE DUMP (.gsa) THAT YtcbepmomjpcjhaaProg.lean LOADS. Nothing in Lean hashes anything: it is a label: what it is worth is what the hold of that sum in a sandbox is worth. -/
noncomputable def Try.pinned : Pinned := { name := "ytcbepmomjpcjhaa", sum := "dd1313059d99a2c3f92b51ce14128c2125eafab82bd7da11128fec34a0f01a89", checked := Try.checked }
namespace Rows
def none {H : Type} : Left H := { results := [], args := [] }

/-- 'laws.FnExactIsPattern': WHATEVER THE INPUT: true; the input reads as it did. -/
def fnExactIsPatternSpec : ChangeSpec := { name := "fnExactIsPattern", fn := fun _ => fun
  | [d] => { results := [.lit (.bool true)], args := [d] }
  | _ => none }
def fnExactIsPatternRow : OpenClaim := { program := "ytcbepmomjpcjhaa", sum := "dd1313059d99a2c3f92b51ce14128c2125eafab82bd7da11128fec34a0f01a89", func := "loop.example/g03015/laws.FnExactIsPattern", spec := "fnExactIsPattern", unfollowed := true, recurses := true, apart := false }
def FnExactIsPatternSaid : Prop := fnExactIsPatternRow.holds Try.pinned (OpenSpec.ofChange fnExactIsPatternSpec)

/-- ITS FALSE NEIGHBOUR: 'it returns false'. Refute it at one input. -/
def fnExactIsPatternWrong : ChangeSpec := { name := "fnExactIsPattern", fn := fun _ => fun
  | [d] => { results := [.lit (.bool false)], args := [d] }
  | _ => none }
def FnExactIsPatternWrongFalsely : Prop := fnExactIsPatternRow.holds Try.pinned (OpenSpec.ofChange fnExactIsPatternWrong)

/-- 'laws.FnExactVarsOf': WHATEVER THE INPUT: true; the input reads as it did. -/
def fnExactVarsOfSpec : ChangeSpec := { name := "fnExactVarsOf", fn := fun _ => fun
  | [d] => { results := [.lit (.bool true)], args := [d] }
  | _ => none }
def fnExactVarsOfRow : OpenClaim := { program := "ytcbepmomjpcjhaa", sum := "dd1313059d99a2c3f92b51ce14128c2125eafab82bd7da11128fec34a0f01a89", func := "loop.example/g03015/laws.FnExactVarsOf", spec := "fnExactVarsOf", recurses := true, apart := false }
def FnExactVarsOfSaid : Prop := fnExactVarsOfRow.holds Try.pinned (OpenSpec.ofChange fnExactVarsOfSpec)

/-- ITS FALSE NEIGHBOUR: 'it returns false'. Refute it at one input. -/
def fnExactVarsOfWrong : ChangeSpec := { name := "fnExactVarsOf", fn := fun _ => fun
  | [d] => { results := [.lit (.bool false)], args := [d] }
  | _ => none }
def FnExactVarsOfWrongFalsely : Prop := fnExactVarsOfRow.holds Try.pinned (OpenSpec.ofChange fnExactVarsOfWrong)

/-- 'laws.FnExactIsBinding': WHATEVER THE INPUT: true; the input reads as it did. -/
def fnExactIsBindingSpec : ChangeSpec := { name := "fnExactIsBinding", fn := fun _ => fun
  | [d] => { results := [.lit (.bool true)], args := [d] }
  | _ => none }
def fnExactIsBindingRow : OpenClaim := { program := "ytcbepmomjpcjhaa", sum := "dd1313059d99a2c3f92b51ce14128c2125eafab82bd7da11128fec34a0f01a89", func := "loop.example/g03015/laws.FnExactIsBinding", spec := "fnExactIsBinding", apart := false }
def FnExactIsBindingSaid : Prop := fnExactIsBindingRow.holds Try.pinned (OpenSpec.ofChange fnExactIsBindingSpec)

/-- ITS FALSE NEIGHBOUR: 'it returns false'. Refute it at one input. -/
def fnExactIsBindingWrong : ChangeSpec := { name := "fnExactIsBinding", fn := fun _ => fun
  | [d] => { results := [.lit (.bool false)], args := [d] }
  | _ => none }
def FnExactIsBindingWrongFalsely : Prop := fnExactIsBindingRow.holds Try.pinned (OpenSpec.ofChange fnExactIsBindingWrong)

/-- 'laws.FnExactValueOf': WHATEVER THE INPUT: true; the input reads as it did. -/
def fnExactValueOfSpec : ChangeSpec := { name := "fnExactValueOf", fn := fun _ => fun
  | [d1, d2] => { results := [.lit (.bool true)], args := [d1, d2] }
  | _ => none }
def fnExactValueOfRow : OpenClaim := { program := "ytcbepmomjpcjhaa", sum := "dd1313059d99a2c3f92b51ce14128c2125eafab82bd7da11128fec34a0f01a89", func := "loop.example/g03015/laws.FnExactValueOf", spec := "fnExactValueOf", apart := false }
def FnExactValueOfSaid : Prop := fnExactValueOfRow.holds Try.pinned (OpenSpec.ofChange fnExactValueOfSpec)

/-- ITS FALSE NEIGHBOUR: 'it returns false'. Refute it at one input. -/
def fnExactValueOfWrong : ChangeSpec := { name := "fnExactValueOf", fn := fun _ => fun
  | [d1, d2] => { results := [.lit (.bool false)], args := [d1, d2] }
  | _ => none }
def FnExactValueOfWrongFalsely : Prop := fnExactValueOfRow.holds Try.pinned (OpenSpec.ofChange fnExactValueOfWrong)

/-- 'laws.FnExactExtend': WHATEVER THE INPUT: true; the input reads as it did. -/
def fnExactExtendSpec : ChangeSpec := { name := "fnExactExtend", fn := fun _ => fun
  | [d1, d2, d3] => { results := [.lit (.bool true)], args := [d1, d2, d3] }
  | _ => none }
def fnExactExtendRow : OpenClaim := { program := "ytcbepmomjpcjhaa", sum := "dd1313059d99a2c3f92b51ce14128c2125eafab82bd7da11128fec34a0f01a89", func := "loop.example/g03015/laws.FnExactExtend", spec := "fnExactExtend", inPlace := ["slices.overlaps[loop.example/g03015/impl.Pair]"], unfollowed := true, recurses := true, apart := false }
def FnExactExtendSaid : Prop := fnExactExtendRow.holds Try.pinned (OpenSpec.ofChange fnExactExtendSpec)

/-- ITS FALSE NEIGHBOUR: 'it returns false'. Refute it at one input. -/
def fnExactExtendWrong : ChangeSpec := { name := "fnExactExtend", fn := fun _ => fun
  | [d1, d2, d3] => { results := [.lit (.bool false)], args := [d1, d2, d3] }
  | _ => none }
def FnExactExtendWrongFalsely : Prop := fnExactExtendRow.holds Try.pinned (OpenSpec.ofChange fnExactExtendWrong)

/-- 'laws.FnExactMatchFact': WHATEVER THE INPUT: true; the input reads as it did. -/
def fnExactMatchFactSpec : ChangeSpec := { name := "fnExactMatchFact", fn := fun _ => fun
  | [d1, d2, d3] => { results := [.lit (.bool true)], args := [d1, d2, d3] }
  | _ => none }
def fnExactMatchFactRow : OpenClaim := { program := "ytcbepmomjpcjhaa", sum := "dd1313059d99a2c3f92b51ce14128c2125eafab82bd7da11128fec34a0f01a89", func := "loop.example/g03015/laws.FnExactMatchFact", spec := "fnExactMatchFact", unfollowed := true, recurses := true, apart := false }
def FnExactMatchFactSaid : Prop := fnExactMatchFactRow.holds Try.pinned (OpenSpec.ofChange fnExactMatchFactSpec)

/-- ITS FALSE NEIGHBOUR: 'it returns false'. Refute it at one input. -/
def fnExactMatchFactWrong : ChangeSpec := { name := "fnExactMatchFact", fn := fun _ => fun
  | [d1, d2, d3] => { results := [.lit (.bool false)], args := [d1, d2, d3] }
  | _ => none }
def FnExactMatchFactWrongFalsely : Prop := fnExactMatchFactRow.holds Try.pinned (OpenSpec.ofChange fnExactMatchFactWrong)

/-- 'laws.FnExactInstance': WHATEVER THE INPUT: true; the input reads as it did. -/
def fnExactInstanceSpec : ChangeSpec := { name := "fnExactInstance", fn := fun _ => fun
  | [d1, d2] => { results := [.lit (.bool true)], args := [d1, d2] }
  | _ => none }
def fnExactInstanceRow : OpenClaim := { program := "ytcbepmomjpcjhaa", sum := "dd1313059d99a2c3f92b51ce14128c2125eafab82bd7da11128fec34a0f01a89", func := "loop.example/g03015/laws.FnExactInstance", spec := "fnExactInstance", unfollowed := true, recurses := true, apart := false }
def FnExactInstanceSaid : Prop := fnExactInstanceRow.holds Try.pinned (OpenSpec.ofChange fnExactInstanceSpec)

/-- ITS FALSE NEIGHBOUR: 'it returns false'. Refute it at one input. -/
def fnExactInstanceWrong : ChangeSpec := { name := "fnExactInstance", fn := fun _ => fun
  | [d1, d2] => { results := [.lit (.bool false)], args := [d1, d2] }
  | _ => none }
def FnExactInstanceWrongFalsely : Prop := fnExactInstanceRow.holds Try.pinned (OpenSpec.ofChange fnExactInstanceWrong)

/-- 'laws.FnExactRestrict': WHATEVER THE INPUT: true; the input reads as it did. -/
def fnExactRestrictSpec : ChangeSpec := { name := "fnExactRestrict", fn := fun _ => fun
  | [d1, d2] => { results := [.lit (.bool true)], args := [d1, d2] }
  | _ => none }
def fnExactRestrictRow : OpenClaim := { program := "ytcbepmomjpcjhaa", sum := "dd1313059d99a2c3f92b51ce14128c2125eafab82bd7da11128fec34a0f01a89", func := "loop.example/g03015/laws.FnExactRestrict", spec := "fnExactRestrict", apart := false }
def FnExactRestrictSaid : Prop := fnExactRestrictRow.holds Try.pinned (OpenSpec.ofChange fnExactRestrictSpec)

/-- ITS FALSE NEIGHBOUR: 'it returns false'. Refute it at one input. -/
def fnExactRestrictWrong : ChangeSpec := { name := "fnExactRestrict", fn := fun _ => fun
  | [d1, d2] => { results := [.lit (.bool false)], args := [d1, d2] }
  | _ => none }
def FnExactRestrictWrongFalsely : Prop := fnExactRestrictRow.holds Try.pinned (OpenSpec.ofChange fnExactRestrictWrong)

/-- 'laws.FnExactFormatPattern': WHATEVER THE INPUT: true; the input reads as it did. -/
def fnExactFormatPatternSpec : ChangeSpec := { name := "fnExactFormatPattern", fn := fun _ => fun
  | [d] => { results := [.lit (.bool true)], args := [d] }
  | _ => none }
def fnExactFormatPatternRow : OpenClaim := { program := "ytcbepmomjpcjhaa", sum := "dd1313059d99a2c3f92b51ce14128c2125eafab82bd7da11128fec34a0f01a89", func := "loop.example/g03015/laws.FnExactFormatPattern", spec := "fnExactFormatPattern", inPlace := ["internal/abi.NoEscape", "internal/bytealg.MakeNoZero"], unfollowed := true, recurses := true, apart := false }
def FnExactFormatPatternSaid : Prop := fnExactFormatPatternRow.holds Try.pinned (OpenSpec.ofChange fnExactFormatPatternSpec)

/-- ITS FALSE NEIGHBOUR: 'it returns false'. Refute it at one input. -/
def fnExactFormatPatternWrong : ChangeSpec := { name := "fnExactFormatPattern", fn := fun _ => fun
  | [d] => { results := [.lit (.bool false)], args := [d] }
  | _ => none }
def FnExactFormatPatternWrongFalsely : Prop := fnExactFormatPatternRow.holds Try.pinned (OpenSpec.ofChange fnExactFormatPatternWrong)

/-- 'laws.FnExactFormatBinding': WHATEVER THE INPUT: true; the input reads as it did. -/
def fnExactFormatBindingSpec : ChangeSpec := { name := "fnExactFormatBinding", fn := fun _ => fun
  | [d] => { results := [.lit (.bool true)], args := [d] }
  | _ => none }
def fnExactFormatBindingRow : OpenClaim := { program := "ytcbepmomjpcjhaa", sum := "dd1313059d99a2c3f92b51ce14128c2125eafab82bd7da11128fec34a0f01a89", func := "loop.example/g03015/laws.FnExactFormatBinding", spec := "fnExactFormatBinding", inPlace := ["internal/abi.NoEscape", "internal/bytealg.MakeNoZero"], apart := false }
def FnExactFormatBindingSaid : Prop := fnExactFormatBindingRow.holds Try.pinned (OpenSpec.ofChange fnExactFormatBindingSpec)

/-- ITS FALSE NEIGHBOUR: 'it returns false'. Refute it at one input. -/
def fnExactFormatBindingWrong : ChangeSpec := { name := "fnExactFormatBinding", fn := fun _ => fun
  | [d] => { results := [.lit (.bool false)], args := [d] }
  | _ => none }
def FnExactFormatBindingWrongFalsely : Prop := fnExactFormatBindingRow.holds Try.pinned (OpenSpec.ofChange fnExactFormatBindingWrong)

/-- 'laws.FnExactCoversPattern': WHATEVER THE INPUT: true; the input reads as it did. -/
def fnExactCoversPatternSpec : ChangeSpec := { name := "fnExactCoversPattern", fn := fun _ => fun
  | [d1, d2] => { results := [.lit (.bool true)], args := [d1, d2] }
  | _ => none }
def fnExactCoversPatternRow : OpenClaim := { program := "ytcbepmomjpcjhaa", sum := "dd1313059d99a2c3f92b51ce14128c2125eafab82bd7da11128fec34a0f01a89", func := "loop.example/g03015/laws.FnExactCoversPattern", spec := "fnExactCoversPattern", unfollowed := true, recurses := true, apart := false }
def FnExactCoversPatternSaid : Prop := fnExactCoversPatternRow.holds Try.pinned (OpenSpec.ofChange fnExactCoversPatternSpec)

/-- ITS FALSE NEIGHBOUR: 'it returns false'. Refute it at one input. -/
def fnExactCoversPatternWrong : ChangeSpec := { name := "fnExactCoversPattern", fn := fun _ => fun
  | [d1, d2] => { results := [.lit (.bool false)], args := [d1, d2] }
  | _ => none }
def FnExactCoversPatternWrongFalsely : Prop := fnExactCoversPatternRow.holds Try.pinned (OpenSpec.ofChange fnExactCoversPatternWrong)

/-- 'laws.FnExactSamePattern': WHATEVER THE INPUT: true; the input reads as it did. -/
def fnExactSamePatternSpec : ChangeSpec := { name := "fnExactSamePattern", fn := fun _ => fun
  | [d1, d2] => { results := [.lit (.bool true)], args := [d1, d2] }
  | _ => none }
def fnExactSamePatternRow : OpenClaim := { program := "ytcbepmomjpcjhaa", sum := "dd1313059d99a2c3f92b51ce14128c2125eafab82bd7da11128fec34a0f01a89", func := "loop.example/g03015/laws.FnExactSamePattern", spec := "fnExactSamePattern", apart := false }
def FnExactSamePatternSaid : Prop := fnExactSamePatternRow.holds Try.pinned (OpenSpec.ofChange fnExactSamePatternSpec)

/-- ITS FALSE NEIGHBOUR: 'it returns false'. Refute it at one input. -/
def fnExactSamePatternWrong : ChangeSpec := { name := "fnExactSamePattern", fn := fun _ => fun
  | [d1, d2] => { results := [.lit (.bool false)], args := [d1, d2] }
  | _ => none }
def FnExactSamePatternWrongFalsely : Prop := fnExactSamePatternRow.holds Try.pinned (OpenSpec.ofChange fnExactSamePatternWrong)

/-- 'laws.FnExactIsFact': WHATEVER THE INPUT: true; the input reads as it did. -/
def fnExactIsFactSpec : ChangeSpec := { name := "fnExactIsFact", fn := fun _ => fun
  | [d] => { results := [.lit (.bool true)], args := [d] }
  | _ => none }
def fnExactIsFactRow : OpenClaim := { program := "ytcbepmomjpcjhaa", sum := "dd1313059d99a2c3f92b51ce14128c2125eafab82bd7da11128fec34a0f01a89", func := "loop.example/g03015/laws.FnExactIsFact", spec := "fnExactIsFact", unfollowed := true, recurses := true, apart := false }
def FnExactIsFactSaid : Prop := fnExactIsFactRow.holds Try.pinned (OpenSpec.ofChange fnExactIsFactSpec)

/-- ITS FALSE NEIGHBOUR: 'it returns false'. Refute it at one input. -/
def fnExactIsFactWrong : ChangeSpec := { name := "fnExactIsFact", fn := fun _ => fun
  | [d] => { results := [.lit (.bool false)], args := [d] }
  | _ => none }
def FnExactIsFactWrongFalsely : Prop := fnExactIsFactRow.holds Try.pinned (OpenSpec.ofChange fnExactIsFactWrong)

/-- 'laws.FnExactFormatFact': WHATEVER THE INPUT: true; the input reads as it did. -/
def fnExactFormatFactSpec : ChangeSpec := { name := "fnExactFormatFact", fn := fun _ => fun
  | [d] => { results := [.lit (.bool true)], args := [d] }
  | _ => none }
def fnExactFormatFactRow : OpenClaim := { program := "ytcbepmomjpcjhaa", sum := "dd1313059d99a2c3f92b51ce14128c2125eafab82bd7da11128fec34a0f01a89", func := "loop.example/g03015/laws.FnExactFormatFact", spec := "fnExactFormatFact", inPlace := ["internal/abi.NoEscape", "internal/bytealg.MakeNoZero"], unfollowed := true, recurses := true, apart := false }
def FnExactFormatFactSaid : Prop := fnExactFormatFactRow.holds Try.pinned (OpenSpec.ofChange fnExactFormatFactSpec)

/-- ITS FALSE NEIGHBOUR: 'it returns false'. Refute it at one input. -/
def fnExactFormatFactWrong : ChangeSpec := { name := "fnExactFormatFact", fn := fun _ => fun
  | [d] => { results := [.lit (.bool false)], args := [d] }
  | _ => none }
def FnExactFormatFactWrongFalsely : Prop := fnExactFormatFactRow.holds Try.pinned (OpenSpec.ofChange fnExactFormatFactWrong)

/-- 'laws.FnExactAreFacts': WHATEVER THE INPUT: true; the input reads as it did. -/
def fnExactAreFactsSpec : ChangeSpec := { name := "fnExactAreFacts", fn := fun _ => fun
  | [d] => { results := [.lit (.bool true)], args := [d] }
  | _ => none }
def fnExactAreFactsRow : OpenClaim := { program := "ytcbepmomjpcjhaa", sum := "dd1313059d99a2c3f92b51ce14128c2125eafab82bd7da11128fec34a0f01a89", func := "loop.example/g03015/laws.FnExactAreFacts", spec := "fnExactAreFacts", unfollowed := true, recurses := true, apart := false }
def FnExactAreFactsSaid : Prop := fnExactAreFactsRow.holds Try.pinned (OpenSpec.ofChange fnExactAreFactsSpec)

/-- ITS FALSE NEIGHBOUR: 'it returns false'. Refute it at one input. -/
def fnExactAreFactsWrong : ChangeSpec := { name := "fnExactAreFacts", fn := fun _ => fun
  | [d] => { results := [.lit (.bool false)], args := [d] }
  | _ => none }
def FnExactAreFactsWrongFalsely : Prop := fnExactAreFactsRow.holds Try.pinned (OpenSpec.ofChange fnExactAreFactsWrong)

/-- 'laws.FnExactFormatFacts': WHATEVER THE INPUT: true; the input reads as it did. -/
def fnExactFormatFactsSpec : ChangeSpec := { name := "fnExactFormatFacts", fn := fun _ => fun
  | [d] => { results := [.lit (.bool true)], args := [d] }
  | _ => none }
def fnExactFormatFactsRow : OpenClaim := { program := "ytcbepmomjpcjhaa", sum := "dd1313059d99a2c3f92b51ce14128c2125eafab82bd7da11128fec34a0f01a89", func := "loop.example/g03015/laws.FnExactFormatFacts", spec := "fnExactFormatFacts", inPlace := ["internal/abi.NoEscape", "internal/bytealg.MakeNoZero"], unfollowed := true, recurses := true, apart := false }
def FnExactFormatFactsSaid : Prop := fnExactFormatFactsRow.holds Try.pinned (OpenSpec.ofChange fnExactFormatFactsSpec)

/-- ITS FALSE NEIGHBOUR: 'it returns false'. Refute it at one input. -/
def fnExactFormatFactsWrong : ChangeSpec := { name := "fnExactFormatFacts", fn := fun _ => fun
  | [d] => { results := [.lit (.bool false)], args := [d] }
  | _ => none }
def FnExactFormatFactsWrongFalsely : Prop := fnExactFormatFactsRow.holds Try.pinned (OpenSpec.ofChange fnExactFormatFactsWrong)

/-- 'laws.FnExactAddFact': WHATEVER THE INPUT: true; the input reads as it did. -/
def fnExactAddFactSpec : ChangeSpec := { name := "fnExactAddFact", fn := fun _ => fun
  | [d1, d2] => { results := [.lit (.bool true)], args := [d1, d2] }
  | _ => none }
def fnExactAddFactRow : OpenClaim := { program := "ytcbepmomjpcjhaa", sum := "dd1313059d99a2c3f92b51ce14128c2125eafab82bd7da11128fec34a0f01a89", func := "loop.example/g03015/laws.FnExactAddFact", spec := "fnExactAddFact", unfollowed := true, recurses := true, apart := false }
def FnExactAddFactSaid : Prop := fnExactAddFactRow.holds Try.pinned (OpenSpec.ofChange fnExactAddFactSpec)

/-- ITS FALSE NEIGHBOUR: 'it returns false'. Refute it at one input. -/
def fnExactAddFactWrong : ChangeSpec := { name := "fnExactAddFact", fn := fun _ => fun
  | [d1, d2] => { results := [.lit (.bool false)], args := [d1, d2] }
  | _ => none }
def FnExactAddFactWrongFalsely : Prop := fnExactAddFactRow.holds Try.pinned (OpenSpec.ofChange fnExactAddFactWrong)

/-- 'laws.FnExactRemoveFact': WHATEVER THE INPUT: true; the input reads as it did. -/
def fnExactRemoveFactSpec : ChangeSpec := { name := "fnExactRemoveFact", fn := fun _ => fun
  | [d1, d2] => { results := [.lit (.bool true)], args := [d1, d2] }
  | _ => none }
def fnExactRemoveFactRow : OpenClaim := { program := "ytcbepmomjpcjhaa", sum := "dd1313059d99a2c3f92b51ce14128c2125eafab82bd7da11128fec34a0f01a89", func := "loop.example/g03015/laws.FnExactRemoveFact", spec := "fnExactRemoveFact", unfollowed := true, recurses := true, apart := false }
def FnExactRemoveFactSaid : Prop := fnExactRemoveFactRow.holds Try.pinned (OpenSpec.ofChange fnExactRemoveFactSpec)

/-- ITS FALSE NEIGHBOUR: 'it returns false'. Refute it at one input. -/
def fnExactRemoveFactWrong : ChangeSpec := { name := "fnExactRemoveFact", fn := fun _ => fun
  | [d1, d2] => { results := [.lit (.bool false)], args := [d1, d2] }
  | _ => none }
def FnExactRemoveFactWrongFalsely : Prop := fnExactRemoveFactRow.holds Try.pinned (OpenSpec.ofChange fnExactRemoveFactWrong)

/- THE SECOND FORM. 'bulk': how many values and letters a reading holds, each counted each time it is reached (what is shared counts as often as it is met; a slice's spare places count too). A statement '..UptoSaid' is the law's where the arguments, and the package variables that the reading takes, are together of bulk at most 1048576: NARROWER than '..Said'. Prove '..Said' where nothing that the law and all that it calls make is longer than what came in: it says more and counts as full. Else prove '..UptoSaid'. A law counts once. -/
mutual
def uptoBulk {H : Type} : DataW H → Nat
  | .lit (.string bytes) => bytes.length + 1
  | .lit _ => 1
  | .nil => 1
  | .ptr d => uptoBulk d + 1
  | .slice elems spare => uptoBulkAll elems + uptoBulkAll spare + 1
  | .agg parts => uptoBulkAll parts + 1
  | .iface _ d => uptoBulk d + 1
  | .map entries => uptoBulkEntries entries + 1
  | .held _ => 1
def uptoBulkAll {H : Type} : List (DataW H) → Nat
  | [] => 0
  | d :: r => uptoBulk d + uptoBulkAll r
def uptoBulkEntries {H : Type} : List (Lit × DataW H) → Nat
  | [] => 0
  | x :: r => uptoBulkEntry x + uptoBulkEntries r
def uptoBulkEntry {H : Type} : Lit × DataW H → Nat
  | (.string bytes, d) => bytes.length + uptoBulk d + 1
  | (_, d) => uptoBulk d + 1
 end
def uptoSmall : (H : Type) → List (DataW H) → Bool := fun _ ds => decide (uptoBulkAll ds ≤ 1048576)
def OpenSpec.upto (s : _root_.Go.ChangeSpec) : _root_.Go.OpenSpec := { _root_.Go.OpenSpec.ofChange s with cond := some uptoSmall }

/-- 'laws.FnExactIsPattern', WHERE WHAT IT READS IS OF BULK AT MOST 1048576: true; the input reads as it did. -/
def fnExactIsPatternUptoRow : OpenClaim := { program := "ytcbepmomjpcjhaa", sum := "dd1313059d99a2c3f92b51ce14128c2125eafab82bd7da11128fec34a0f01a89", func := "loop.example/g03015/laws.FnExactIsPattern", spec := "fnExactIsPattern", unfollowed := true, recurses := true, apart := false, narrowed := true }
def FnExactIsPatternUptoSaid : Prop := fnExactIsPatternUptoRow.holds Try.pinned (OpenSpec.upto fnExactIsPatternSpec)

/-- 'laws.FnExactVarsOf', WHERE WHAT IT READS IS OF BULK AT MOST 1048576: true; the input reads as it did. -/
def fnExactVarsOfUptoRow : OpenClaim := { program := "ytcbepmomjpcjhaa", sum := "dd1313059d99a2c3f92b51ce14128c2125eafab82bd7da11128fec34a0f01a89", func := "loop.example/g03015/laws.FnExactVarsOf", spec := "fnExactVarsOf", recurses := true, apart := false, narrowed := true }
def FnExactVarsOfUptoSaid : Prop := fnExactVarsOfUptoRow.holds Try.pinned (OpenSpec.upto fnExactVarsOfSpec)

/-- 'laws.FnExactIsBinding', WHERE WHAT IT READS IS OF BULK AT MOST 1048576: true; the input reads as it did. -/
def fnExactIsBindingUptoRow : OpenClaim := { program := "ytcbepmomjpcjhaa", sum := "dd1313059d99a2c3f92b51ce14128c2125eafab82bd7da11128fec34a0f01a89", func := "loop.example/g03015/laws.FnExactIsBinding", spec := "fnExactIsBinding", apart := false, narrowed := true }
def FnExactIsBindingUptoSaid : Prop := fnExactIsBindingUptoRow.holds Try.pinned (OpenSpec.upto fnExactIsBindingSpec)

/-- 'laws.FnExactValueOf', WHERE WHAT IT READS IS OF BULK AT MOST 1048576: true; the input reads as it did. -/
def fnExactValueOfUptoRow : OpenClaim := { program := "ytcbepmomjpcjhaa", sum := "dd1313059d99a2c3f92b51ce14128c2125eafab82bd7da11128fec34a0f01a89", func := "loop.example/g03015/laws.FnExactValueOf", spec := "fnExactValueOf", apart := false, narrowed := true }
def FnExactValueOfUptoSaid : Prop := fnExactValueOfUptoRow.holds Try.pinned (OpenSpec.upto fnExactValueOfSpec)

/-- 'laws.FnExactExtend', WHERE WHAT IT READS IS OF BULK AT MOST 1048576: true; the input reads as it did. -/
def fnExactExtendUptoRow : OpenClaim := { program := "ytcbepmomjpcjhaa", sum := "dd1313059d99a2c3f92b51ce14128c2125eafab82bd7da11128fec34a0f01a89", func := "loop.example/g03015/laws.FnExactExtend", spec := "fnExactExtend", inPlace := ["slices.overlaps[loop.example/g03015/impl.Pair]"], unfollowed := true, recurses := true, apart := false, narrowed := true }
def FnExactExtendUptoSaid : Prop := fnExactExtendUptoRow.holds Try.pinned (OpenSpec.upto fnExactExtendSpec)

/-- 'laws.FnExactMatchFact', WHERE WHAT IT READS IS OF BULK AT MOST 1048576: true; the input reads as it did. -/
def fnExactMatchFactUptoRow : OpenClaim := { program := "ytcbepmomjpcjhaa", sum := "dd1313059d99a2c3f92b51ce14128c2125eafab82bd7da11128fec34a0f01a89", func := "loop.example/g03015/laws.FnExactMatchFact", spec := "fnExactMatchFact", unfollowed := true, recurses := true, apart := false, narrowed := true }
def FnExactMatchFactUptoSaid : Prop := fnExactMatchFactUptoRow.holds Try.pinned (OpenSpec.upto fnExactMatchFactSpec)

/-- 'laws.FnExactInstance', WHERE WHAT IT READS IS OF BULK AT MOST 1048576: true; the input reads as it did. -/
def fnExactInstanceUptoRow : OpenClaim := { program := "ytcbepmomjpcjhaa", sum := "dd1313059d99a2c3f92b51ce14128c2125eafab82bd7da11128fec34a0f01a89", func := "loop.example/g03015/laws.FnExactInstance", spec := "fnExactInstance", unfollowed := true, recurses := true, apart := false, narrowed := true }
def FnExactInstanceUptoSaid : Prop := fnExactInstanceUptoRow.holds Try.pinned (OpenSpec.upto fnExactInstanceSpec)

/-- 'laws.FnExactRestrict', WHERE WHAT IT READS IS OF BULK AT MOST 1048576: true; the input reads as it did. -/
def fnExactRestrictUptoRow : OpenClaim := { program := "ytcbepmomjpcjhaa", sum := "dd1313059d99a2c3f92b51ce14128c2125eafab82bd7da11128fec34a0f01a89", func := "loop.example/g03015/laws.FnExactRestrict", spec := "fnExactRestrict", apart := false, narrowed := true }
def FnExactRestrictUptoSaid : Prop := fnExactRestrictUptoRow.holds Try.pinned (OpenSpec.upto fnExactRestrictSpec)

/-- 'laws.FnExactFormatPattern', WHERE WHAT IT READS IS OF BULK AT MOST 1048576: true; the input reads as it did. -/
def fnExactFormatPatternUptoRow : OpenClaim := { program := "ytcbepmomjpcjhaa", sum := "dd1313059d99a2c3f92b51ce14128c2125eafab82bd7da11128fec34a0f01a89", func := "loop.example/g03015/laws.FnExactFormatPattern", spec := "fnExactFormatPattern", inPlace := ["internal/abi.NoEscape", "internal/bytealg.MakeNoZero"], unfollowed := true, recurses := true, apart := false, narrowed := true }
def FnExactFormatPatternUptoSaid : Prop := fnExactFormatPatternUptoRow.holds Try.pinned (OpenSpec.upto fnExactFormatPatternSpec)

/-- 'laws.FnExactFormatBinding', WHERE WHAT IT READS IS OF BULK AT MOST 1048576: true; the input reads as it did. -/
def fnExactFormatBindingUptoRow : OpenClaim := { program := "ytcbepmomjpcjhaa", sum := "dd1313059d99a2c3f92b51ce14128c2125eafab82bd7da11128fec34a0f01a89", func := "loop.example/g03015/laws.FnExactFormatBinding", spec := "fnExactFormatBinding", inPlace := ["internal/abi.NoEscape", "internal/bytealg.MakeNoZero"], apart := false, narrowed := true }
def FnExactFormatBindingUptoSaid : Prop := fnExactFormatBindingUptoRow.holds Try.pinned (OpenSpec.upto fnExactFormatBindingSpec)

/-- 'laws.FnExactCoversPattern', WHERE WHAT IT READS IS OF BULK AT MOST 1048576: true; the input reads as it did. -/
def fnExactCoversPatternUptoRow : OpenClaim := { program := "ytcbepmomjpcjhaa", sum := "dd1313059d99a2c3f92b51ce14128c2125eafab82bd7da11128fec34a0f01a89", func := "loop.example/g03015/laws.FnExactCoversPattern", spec := "fnExactCoversPattern", unfollowed := true, recurses := true, apart := false, narrowed := true }
def FnExactCoversPatternUptoSaid : Prop := fnExactCoversPatternUptoRow.holds Try.pinned (OpenSpec.upto fnExactCoversPatternSpec)

/-- 'laws.FnExactSamePattern', WHERE WHAT IT READS IS OF BULK AT MOST 1048576: true; the input reads as it did. -/
def fnExactSamePatternUptoRow : OpenClaim := { program := "ytcbepmomjpcjhaa", sum := "dd1313059d99a2c3f92b51ce14128c2125eafab82bd7da11128fec34a0f01a89", func := "loop.example/g03015/laws.FnExactSamePattern", spec := "fnExactSamePattern", apart := false, narrowed := true }
def FnExactSamePatternUptoSaid : Prop := fnExactSamePatternUptoRow.holds Try.pinned (OpenSpec.upto fnExactSamePatternSpec)

/-- 'laws.FnExactIsFact', WHERE WHAT IT READS IS OF BULK AT MOST 1048576: true; the input reads as it did. -/
def fnExactIsFactUptoRow : OpenClaim := { program := "ytcbepmomjpcjhaa", sum := "dd1313059d99a2c3f92b51ce14128c2125eafab82bd7da11128fec34a0f01a89", func := "loop.example/g03015/laws.FnExactIsFact", spec := "fnExactIsFact", unfollowed := true, recurses := true, apart := false, narrowed := true }
def FnExactIsFactUptoSaid : Prop := fnExactIsFactUptoRow.holds Try.pinned (OpenSpec.upto fnExactIsFactSpec)

/-- 'laws.FnExactFormatFact', WHERE WHAT IT READS IS OF BULK AT MOST 1048576: true; the input reads as it did. -/
def fnExactFormatFactUptoRow : OpenClaim := { program := "ytcbepmomjpcjhaa", sum := "dd1313059d99a2c3f92b51ce14128c2125eafab82bd7da11128fec34a0f01a89", func := "loop.example/g03015/laws.FnExactFormatFact", spec := "fnExactFormatFact", inPlace := ["internal/abi.NoEscape", "internal/bytealg.MakeNoZero"], unfollowed := true, recurses := true, apart := false, narrowed := true }
def FnExactFormatFactUptoSaid : Prop := fnExactFormatFactUptoRow.holds Try.pinned (OpenSpec.upto fnExactFormatFactSpec)

/-- 'laws.FnExactAreFacts', WHERE WHAT IT READS IS OF BULK AT MOST 1048576: true; the input reads as it did. -/
def fnExactAreFactsUptoRow : OpenClaim := { program := "ytcbepmomjpcjhaa", sum := "dd1313059d99a2c3f92b51ce14128c2125eafab82bd7da11128fec34a0f01a89", func := "loop.example/g03015/laws.FnExactAreFacts", spec := "fnExactAreFacts", unfollowed := true, recurses := true, apart := false, narrowed := true }
def FnExactAreFactsUptoSaid : Prop := fnExactAreFactsUptoRow.holds Try.pinned (OpenSpec.upto fnExactAreFactsSpec)

/-- 'laws.FnExactFormatFacts', WHERE WHAT IT READS IS OF BULK AT MOST 1048576: true; the input reads as it did. -/
def fnExactFormatFactsUptoRow : OpenClaim := { program := "ytcbepmomjpcjhaa", sum := "dd1313059d99a2c3f92b51ce14128c2125eafab82bd7da11128fec34a0f01a89", func := "loop.example/g03015/laws.FnExactFormatFacts", spec := "fnExactFormatFacts", inPlace := ["internal/abi.NoEscape", "internal/bytealg.MakeNoZero"], unfollowed := true, recurses := true, apart := false, narrowed := true }
def FnExactFormatFactsUptoSaid : Prop := fnExactFormatFactsUptoRow.holds Try.pinned (OpenSpec.upto fnExactFormatFactsSpec)

/-- 'laws.FnExactAddFact', WHERE WHAT IT READS IS OF BULK AT MOST 1048576: true; the input reads as it did. -/
def fnExactAddFactUptoRow : OpenClaim := { program := "ytcbepmomjpcjhaa", sum := "dd1313059d99a2c3f92b51ce14128c2125eafab82bd7da11128fec34a0f01a89", func := "loop.example/g03015/laws.FnExactAddFact", spec := "fnExactAddFact", unfollowed := true, recurses := true, apart := false, narrowed := true }
def FnExactAddFactUptoSaid : Prop := fnExactAddFactUptoRow.holds Try.pinned (OpenSpec.upto fnExactAddFactSpec)

/-- 'laws.FnExactRemoveFact', WHERE WHAT IT READS IS OF BULK AT MOST 1048576: true; the input reads as it did. -/
def fnExactRemoveFactUptoRow : OpenClaim := { program := "ytcbepmomjpcjhaa", sum := "dd1313059d99a2c3f92b51ce14128c2125eafab82bd7da11128fec34a0f01a89", func := "loop.example/g03015/laws.FnExactRemoveFact", spec := "fnExactRemoveFact", unfollowed := true, recurses := true, apart := false, narrowed := true }
def FnExactRemoveFactUptoSaid : Prop := fnExactRemoveFactUptoRow.holds Try.pinned (OpenSpec.upto fnExactRemoveFactSpec)

end Rows
end Go.Proofs.Ytcbepmomjpcjhaa
