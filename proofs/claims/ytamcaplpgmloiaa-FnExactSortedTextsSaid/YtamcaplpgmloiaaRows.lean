/-
  No cell of these rows narrows 'for every input' (looked for: loops, veiled, ifaces, maps, wideKeys, modest, calm, conditions, laid).
  DERIVED. THE GIVEN ROWS OF THIS SEAT. 14 by the template 'for every input the law returns true; each argument reads behind the call as it read before'; 0 by the template 'total and deterministic' (their statements: YtamcaplpgmloiaaTotals.lean).
  GIVEN WITH THE SEED: the statements are not yours to turn. If you find one false, say at which input.
  Laid BY PROGRAM, IN A SANDBOX (cutbox-rows.mjs): the forced cells as the released guide's own fill.sh prints them over the translation 60033c137b23b7d8… (all of the seat's roots in one cut). By AI agents, Wed Nov 11 2026. No macro, syntax, notation, axiom, sorry.
-/
import Derived.Test.YtamcaplpgmloiaaChecked
import GoSem.Claim
import GoSem.ClaimJoined
import GoSem.ClaimMapViews
import Derived.JoinedTies
import Derived.KernelRfl
namespace Go.Proofs.Ytamcaplpgmloiaa
/- THE CELL 'sum', in the pinned program and in every row, IS THE sha256 OF THE DUMP (.gsa) THAT YtamcaplpgmloiaaProg.lean LOADS. Nothing in Lean hashes anything: it is a label: what it is worth is what the hold of that sum in a sandbox is worth. -/
noncomputable def Try.pinned : Pinned := { name := "ytamcaplpgmloiaa", sum := "60033c137b23b7d8900f7e64cf5af83e1e33076cd65d084899af4737b25334ca", checked := Try.checked }
namespace Rows
def none {H : Type} : Left H := { results := [], args := [] }

/-- 'laws.FnExactJoin': WHATEVER THE INPUT: true; the input reads as it did. -/
def fnExactJoinSpec : ChangeSpec := { name := "fnExactJoin", fn := fun _ => fun
  | [d1, d2] => { results := [.lit (.bool true)], args := [d1, d2] }
  | _ => none }
def fnExactJoinRow : OpenClaim := { program := "ytamcaplpgmloiaa", sum := "60033c137b23b7d8900f7e64cf5af83e1e33076cd65d084899af4737b25334ca", func := "loop.example/g03015/laws.FnExactJoin", spec := "fnExactJoin", inPlace := ["internal/abi.NoEscape", "internal/bytealg.MakeNoZero"], apart := false }
def FnExactJoinSaid : Prop := fnExactJoinRow.holds Try.pinned (OpenSpec.ofChange fnExactJoinSpec)

/-- ITS FALSE NEIGHBOUR: 'it returns false'. Refute it at one input. -/
def fnExactJoinWrong : ChangeSpec := { name := "fnExactJoin", fn := fun _ => fun
  | [d1, d2] => { results := [.lit (.bool false)], args := [d1, d2] }
  | _ => none }
def FnExactJoinWrongFalsely : Prop := fnExactJoinRow.holds Try.pinned (OpenSpec.ofChange fnExactJoinWrong)

/-- 'laws.FnExactSortedTexts': WHATEVER THE INPUT: true; the input reads as it did. -/
def fnExactSortedTextsSpec : ChangeSpec := { name := "fnExactSortedTexts", fn := fun _ => fun
  | [d] => { results := [.lit (.bool true)], args := [d] }
  | _ => none }
def fnExactSortedTextsRow : OpenClaim := { program := "ytamcaplpgmloiaa", sum := "60033c137b23b7d8900f7e64cf5af83e1e33076cd65d084899af4737b25334ca", func := "loop.example/g03015/laws.FnExactSortedTexts", spec := "fnExactSortedTexts", recurses := true, apart := false }
def FnExactSortedTextsSaid : Prop := fnExactSortedTextsRow.holds Try.pinned (OpenSpec.ofChange fnExactSortedTextsSpec)

/-- ITS FALSE NEIGHBOUR: 'it returns false'. Refute it at one input. -/
def fnExactSortedTextsWrong : ChangeSpec := { name := "fnExactSortedTexts", fn := fun _ => fun
  | [d] => { results := [.lit (.bool false)], args := [d] }
  | _ => none }
def FnExactSortedTextsWrongFalsely : Prop := fnExactSortedTextsRow.holds Try.pinned (OpenSpec.ofChange fnExactSortedTextsWrong)

/-- 'laws.FnFactSets': WHATEVER THE INPUT: true; the input reads as it did. -/
def fnFactSetsSpec : ChangeSpec := { name := "fnFactSets", fn := fun _ => fun
  | [d] => { results := [.lit (.bool true)], args := [d] }
  | _ => none }
def fnFactSetsRow : OpenClaim := { program := "ytamcaplpgmloiaa", sum := "60033c137b23b7d8900f7e64cf5af83e1e33076cd65d084899af4737b25334ca", func := "loop.example/g03015/laws.FnFactSets", spec := "fnFactSets", unfollowed := true, recurses := true, apart := false }
def FnFactSetsSaid : Prop := fnFactSetsRow.holds Try.pinned (OpenSpec.ofChange fnFactSetsSpec)

/-- ITS FALSE NEIGHBOUR: 'it returns false'. Refute it at one input. -/
def fnFactSetsWrong : ChangeSpec := { name := "fnFactSets", fn := fun _ => fun
  | [d] => { results := [.lit (.bool false)], args := [d] }
  | _ => none }
def FnFactSetsWrongFalsely : Prop := fnFactSetsRow.holds Try.pinned (OpenSpec.ofChange fnFactSetsWrong)

/-- 'laws.FnFactOrder': WHATEVER THE INPUT: true; the input reads as it did. -/
def fnFactOrderSpec : ChangeSpec := { name := "fnFactOrder", fn := fun _ => fun
  | [d] => { results := [.lit (.bool true)], args := [d] }
  | _ => none }
def fnFactOrderRow : OpenClaim := { program := "ytamcaplpgmloiaa", sum := "60033c137b23b7d8900f7e64cf5af83e1e33076cd65d084899af4737b25334ca", func := "loop.example/g03015/laws.FnFactOrder", spec := "fnFactOrder", unfollowed := true, recurses := true, apart := false }
def FnFactOrderSaid : Prop := fnFactOrderRow.holds Try.pinned (OpenSpec.ofChange fnFactOrderSpec)

/-- ITS FALSE NEIGHBOUR: 'it returns false'. Refute it at one input. -/
def fnFactOrderWrong : ChangeSpec := { name := "fnFactOrder", fn := fun _ => fun
  | [d] => { results := [.lit (.bool false)], args := [d] }
  | _ => none }
def FnFactOrderWrongFalsely : Prop := fnFactOrderRow.holds Try.pinned (OpenSpec.ofChange fnFactOrderWrong)

/-- 'laws.FnExactIsFact': WHATEVER THE INPUT: true; the input reads as it did. -/
def fnExactIsFactSpec : ChangeSpec := { name := "fnExactIsFact", fn := fun _ => fun
  | [d] => { results := [.lit (.bool true)], args := [d] }
  | _ => none }
def fnExactIsFactRow : OpenClaim := { program := "ytamcaplpgmloiaa", sum := "60033c137b23b7d8900f7e64cf5af83e1e33076cd65d084899af4737b25334ca", func := "loop.example/g03015/laws.FnExactIsFact", spec := "fnExactIsFact", apart := false }
def FnExactIsFactSaid : Prop := fnExactIsFactRow.holds Try.pinned (OpenSpec.ofChange fnExactIsFactSpec)

/-- ITS FALSE NEIGHBOUR: 'it returns false'. Refute it at one input. -/
def fnExactIsFactWrong : ChangeSpec := { name := "fnExactIsFact", fn := fun _ => fun
  | [d] => { results := [.lit (.bool false)], args := [d] }
  | _ => none }
def FnExactIsFactWrongFalsely : Prop := fnExactIsFactRow.holds Try.pinned (OpenSpec.ofChange fnExactIsFactWrong)

/-- 'laws.FnExactCompareFacts': WHATEVER THE INPUT: true; the input reads as it did. -/
def fnExactCompareFactsSpec : ChangeSpec := { name := "fnExactCompareFacts", fn := fun _ => fun
  | [d1, d2] => { results := [.lit (.bool true)], args := [d1, d2] }
  | _ => none }
def fnExactCompareFactsRow : OpenClaim := { program := "ytamcaplpgmloiaa", sum := "60033c137b23b7d8900f7e64cf5af83e1e33076cd65d084899af4737b25334ca", func := "loop.example/g03015/laws.FnExactCompareFacts", spec := "fnExactCompareFacts", unfollowed := true, recurses := true, apart := false }
def FnExactCompareFactsSaid : Prop := fnExactCompareFactsRow.holds Try.pinned (OpenSpec.ofChange fnExactCompareFactsSpec)

/-- ITS FALSE NEIGHBOUR: 'it returns false'. Refute it at one input. -/
def fnExactCompareFactsWrong : ChangeSpec := { name := "fnExactCompareFacts", fn := fun _ => fun
  | [d1, d2] => { results := [.lit (.bool false)], args := [d1, d2] }
  | _ => none }
def FnExactCompareFactsWrongFalsely : Prop := fnExactCompareFactsRow.holds Try.pinned (OpenSpec.ofChange fnExactCompareFactsWrong)

/-- 'laws.FnExactFormatFact': WHATEVER THE INPUT: true; the input reads as it did. -/
def fnExactFormatFactSpec : ChangeSpec := { name := "fnExactFormatFact", fn := fun _ => fun
  | [d] => { results := [.lit (.bool true)], args := [d] }
  | _ => none }
def fnExactFormatFactRow : OpenClaim := { program := "ytamcaplpgmloiaa", sum := "60033c137b23b7d8900f7e64cf5af83e1e33076cd65d084899af4737b25334ca", func := "loop.example/g03015/laws.FnExactFormatFact", spec := "fnExactFormatFact", inPlace := ["internal/abi.NoEscape", "internal/bytealg.MakeNoZero"], apart := false }
def FnExactFormatFactSaid : Prop := fnExactFormatFactRow.holds Try.pinned (OpenSpec.ofChange fnExactFormatFactSpec)

/-- ITS FALSE NEIGHBOUR: 'it returns false'. Refute it at one input. -/
def fnExactFormatFactWrong : ChangeSpec := { name := "fnExactFormatFact", fn := fun _ => fun
  | [d] => { results := [.lit (.bool false)], args := [d] }
  | _ => none }
def FnExactFormatFactWrongFalsely : Prop := fnExactFormatFactRow.holds Try.pinned (OpenSpec.ofChange fnExactFormatFactWrong)

/-- 'laws.FnExactAreFacts': WHATEVER THE INPUT: true; the input reads as it did. -/
def fnExactAreFactsSpec : ChangeSpec := { name := "fnExactAreFacts", fn := fun _ => fun
  | [d] => { results := [.lit (.bool true)], args := [d] }
  | _ => none }
def fnExactAreFactsRow : OpenClaim := { program := "ytamcaplpgmloiaa", sum := "60033c137b23b7d8900f7e64cf5af83e1e33076cd65d084899af4737b25334ca", func := "loop.example/g03015/laws.FnExactAreFacts", spec := "fnExactAreFacts", unfollowed := true, recurses := true, apart := false }
def FnExactAreFactsSaid : Prop := fnExactAreFactsRow.holds Try.pinned (OpenSpec.ofChange fnExactAreFactsSpec)

/-- ITS FALSE NEIGHBOUR: 'it returns false'. Refute it at one input. -/
def fnExactAreFactsWrong : ChangeSpec := { name := "fnExactAreFacts", fn := fun _ => fun
  | [d] => { results := [.lit (.bool false)], args := [d] }
  | _ => none }
def FnExactAreFactsWrongFalsely : Prop := fnExactAreFactsRow.holds Try.pinned (OpenSpec.ofChange fnExactAreFactsWrong)

/-- 'laws.FnExactFindFact': WHATEVER THE INPUT: true; the input reads as it did. -/
def fnExactFindFactSpec : ChangeSpec := { name := "fnExactFindFact", fn := fun _ => fun
  | [d1, d2] => { results := [.lit (.bool true)], args := [d1, d2] }
  | _ => none }
def fnExactFindFactRow : OpenClaim := { program := "ytamcaplpgmloiaa", sum := "60033c137b23b7d8900f7e64cf5af83e1e33076cd65d084899af4737b25334ca", func := "loop.example/g03015/laws.FnExactFindFact", spec := "fnExactFindFact", apart := false }
def FnExactFindFactSaid : Prop := fnExactFindFactRow.holds Try.pinned (OpenSpec.ofChange fnExactFindFactSpec)

/-- ITS FALSE NEIGHBOUR: 'it returns false'. Refute it at one input. -/
def fnExactFindFactWrong : ChangeSpec := { name := "fnExactFindFact", fn := fun _ => fun
  | [d1, d2] => { results := [.lit (.bool false)], args := [d1, d2] }
  | _ => none }
def FnExactFindFactWrongFalsely : Prop := fnExactFindFactRow.holds Try.pinned (OpenSpec.ofChange fnExactFindFactWrong)

/-- 'laws.FnExactAddFact': WHATEVER THE INPUT: true; the input reads as it did. -/
def fnExactAddFactSpec : ChangeSpec := { name := "fnExactAddFact", fn := fun _ => fun
  | [d1, d2] => { results := [.lit (.bool true)], args := [d1, d2] }
  | _ => none }
def fnExactAddFactRow : OpenClaim := { program := "ytamcaplpgmloiaa", sum := "60033c137b23b7d8900f7e64cf5af83e1e33076cd65d084899af4737b25334ca", func := "loop.example/g03015/laws.FnExactAddFact", spec := "fnExactAddFact", unfollowed := true, recurses := true, apart := false }
def FnExactAddFactSaid : Prop := fnExactAddFactRow.holds Try.pinned (OpenSpec.ofChange fnExactAddFactSpec)

/-- ITS FALSE NEIGHBOUR: 'it returns false'. Refute it at one input. -/
def fnExactAddFactWrong : ChangeSpec := { name := "fnExactAddFact", fn := fun _ => fun
  | [d1, d2] => { results := [.lit (.bool false)], args := [d1, d2] }
  | _ => none }
def FnExactAddFactWrongFalsely : Prop := fnExactAddFactRow.holds Try.pinned (OpenSpec.ofChange fnExactAddFactWrong)

/-- 'laws.FnExactRemoveFact': WHATEVER THE INPUT: true; the input reads as it did. -/
def fnExactRemoveFactSpec : ChangeSpec := { name := "fnExactRemoveFact", fn := fun _ => fun
  | [d1, d2] => { results := [.lit (.bool true)], args := [d1, d2] }
  | _ => none }
def fnExactRemoveFactRow : OpenClaim := { program := "ytamcaplpgmloiaa", sum := "60033c137b23b7d8900f7e64cf5af83e1e33076cd65d084899af4737b25334ca", func := "loop.example/g03015/laws.FnExactRemoveFact", spec := "fnExactRemoveFact", unfollowed := true, recurses := true, apart := false }
def FnExactRemoveFactSaid : Prop := fnExactRemoveFactRow.holds Try.pinned (OpenSpec.ofChange fnExactRemoveFactSpec)

/-- ITS FALSE NEIGHBOUR: 'it returns false'. Refute it at one input. -/
def fnExactRemoveFactWrong : ChangeSpec := { name := "fnExactRemoveFact", fn := fun _ => fun
  | [d1, d2] => { results := [.lit (.bool false)], args := [d1, d2] }
  | _ => none }
def FnExactRemoveFactWrongFalsely : Prop := fnExactRemoveFactRow.holds Try.pinned (OpenSpec.ofChange fnExactRemoveFactWrong)

/-- 'laws.FnExactSameFacts': WHATEVER THE INPUT: true; the input reads as it did. -/
def fnExactSameFactsSpec : ChangeSpec := { name := "fnExactSameFacts", fn := fun _ => fun
  | [d1, d2] => { results := [.lit (.bool true)], args := [d1, d2] }
  | _ => none }
def fnExactSameFactsRow : OpenClaim := { program := "ytamcaplpgmloiaa", sum := "60033c137b23b7d8900f7e64cf5af83e1e33076cd65d084899af4737b25334ca", func := "loop.example/g03015/laws.FnExactSameFacts", spec := "fnExactSameFacts", unfollowed := true, recurses := true, apart := false }
def FnExactSameFactsSaid : Prop := fnExactSameFactsRow.holds Try.pinned (OpenSpec.ofChange fnExactSameFactsSpec)

/-- ITS FALSE NEIGHBOUR: 'it returns false'. Refute it at one input. -/
def fnExactSameFactsWrong : ChangeSpec := { name := "fnExactSameFacts", fn := fun _ => fun
  | [d1, d2] => { results := [.lit (.bool false)], args := [d1, d2] }
  | _ => none }
def FnExactSameFactsWrongFalsely : Prop := fnExactSameFactsRow.holds Try.pinned (OpenSpec.ofChange fnExactSameFactsWrong)

/-- 'laws.FnExactFactsWith': WHATEVER THE INPUT: true; the input reads as it did. -/
def fnExactFactsWithSpec : ChangeSpec := { name := "fnExactFactsWith", fn := fun _ => fun
  | [d1, d2] => { results := [.lit (.bool true)], args := [d1, d2] }
  | _ => none }
def fnExactFactsWithRow : OpenClaim := { program := "ytamcaplpgmloiaa", sum := "60033c137b23b7d8900f7e64cf5af83e1e33076cd65d084899af4737b25334ca", func := "loop.example/g03015/laws.FnExactFactsWith", spec := "fnExactFactsWith", apart := false }
def FnExactFactsWithSaid : Prop := fnExactFactsWithRow.holds Try.pinned (OpenSpec.ofChange fnExactFactsWithSpec)

/-- ITS FALSE NEIGHBOUR: 'it returns false'. Refute it at one input. -/
def fnExactFactsWithWrong : ChangeSpec := { name := "fnExactFactsWith", fn := fun _ => fun
  | [d1, d2] => { results := [.lit (.bool false)], args := [d1, d2] }
  | _ => none }
def FnExactFactsWithWrongFalsely : Prop := fnExactFactsWithRow.holds Try.pinned (OpenSpec.ofChange fnExactFactsWithWrong)

/-- 'laws.FnExactFormatFacts': WHATEVER THE INPUT: true; the input reads as it did. -/
def fnExactFormatFactsSpec : ChangeSpec := { name := "fnExactFormatFacts", fn := fun _ => fun
  | [d] => { results := [.lit (.bool true)], args := [d] }
  | _ => none }
def fnExactFormatFactsRow : OpenClaim := { program := "ytamcaplpgmloiaa", sum := "60033c137b23b7d8900f7e64cf5af83e1e33076cd65d084899af4737b25334ca", func := "loop.example/g03015/laws.FnExactFormatFacts", spec := "fnExactFormatFacts", inPlace := ["internal/abi.NoEscape", "internal/bytealg.MakeNoZero"], apart := false }
def FnExactFormatFactsSaid : Prop := fnExactFormatFactsRow.holds Try.pinned (OpenSpec.ofChange fnExactFormatFactsSpec)

/-- ITS FALSE NEIGHBOUR: 'it returns false'. Refute it at one input. -/
def fnExactFormatFactsWrong : ChangeSpec := { name := "fnExactFormatFacts", fn := fun _ => fun
  | [d] => { results := [.lit (.bool false)], args := [d] }
  | _ => none }
def FnExactFormatFactsWrongFalsely : Prop := fnExactFormatFactsRow.holds Try.pinned (OpenSpec.ofChange fnExactFormatFactsWrong)

/- THE SECOND FORM. 'bulk': how many values and letters a reading holds, each counted each time it is reached (what is shared counts as often as it is met; a slice's spare places count too). A statement '..UptoSaid' is the law's where the arguments, and the package variables that the reading takes, are together of bulk at most 1048576: NARROWER than '..Said'. Prove '..Said' where nothing that the law and all that it calls make is longer than what came in: it says more and counts as full. Else prove '..UptoSaid'. A law counts once. -/
mutual
def uptoBulk {H : Type} : DataW H → Nat
  | .lit (.string bytes) => bytes.length + 1
  | .lit _ => 1
  | .nil => 1
  | .ptr d => uptoBulk d + 1
  | .slice elems spare => uptoBulkAll elems + uptoBulkAll spare + 1
  | .agg parts => uptoBulkAll parts + 1
  | .iface _ d => uptoBulk d + 1
  | .map entries => uptoBulkEntries entries + 1
  | .held _ => 1
def uptoBulkAll {H : Type} : List (DataW H) → Nat
  | [] => 0
  | d :: r => uptoBulk d + uptoBulkAll r
def uptoBulkEntries {H : Type} : List (Lit × DataW H) → Nat
  | [] => 0
  | x :: r => uptoBulkEntry x + uptoBulkEntries r
def uptoBulkEntry {H : Type} : Lit × DataW H → Nat
  | (.string bytes, d) => bytes.length + uptoBulk d + 1
  | (_, d) => uptoBulk d + 1
 end
def uptoSmall : (H : Type) → List (DataW H) → Bool := fun _ ds => decide (uptoBulkAll ds ≤ 1048576)
def OpenSpec.upto (s : _root_.Go.ChangeSpec) : _root_.Go.OpenSpec := { _root_.Go.OpenSpec.ofChange s with cond := some uptoSmall }

/-- 'laws.FnExactJoin', WHERE WHAT IT READS IS OF BULK AT MOST 1048576: true; the input reads as it did. -/
def fnExactJoinUptoRow : OpenClaim := { program := "ytamcaplpgmloiaa", sum := "60033c137b23b7d8900f7e64cf5af83e1e33076cd65d084899af4737b25334ca", func := "loop.example/g03015/laws.FnExactJoin", spec := "fnExactJoin", inPlace := ["internal/abi.NoEscape", "internal/bytealg.MakeNoZero"], apart := false, narrowed := true }
def FnExactJoinUptoSaid : Prop := fnExactJoinUptoRow.holds Try.pinned (OpenSpec.upto fnExactJoinSpec)

/-- 'laws.FnExactSortedTexts', WHERE WHAT IT READS IS OF BULK AT MOST 1048576: true; the input reads as it did. -/
def fnExactSortedTextsUptoRow : OpenClaim := { program := "ytamcaplpgmloiaa", sum := "60033c137b23b7d8900f7e64cf5af83e1e33076cd65d084899af4737b25334ca", func := "loop.example/g03015/laws.FnExactSortedTexts", spec := "fnExactSortedTexts", recurses := true, apart := false, narrowed := true }
def FnExactSortedTextsUptoSaid : Prop := fnExactSortedTextsUptoRow.holds Try.pinned (OpenSpec.upto fnExactSortedTextsSpec)

/-- 'laws.FnFactSets', WHERE WHAT IT READS IS OF BULK AT MOST 1048576: true; the input reads as it did. -/
def fnFactSetsUptoRow : OpenClaim := { program := "ytamcaplpgmloiaa", sum := "60033c137b23b7d8900f7e64cf5af83e1e33076cd65d084899af4737b25334ca", func := "loop.example/g03015/laws.FnFactSets", spec := "fnFactSets", unfollowed := true, recurses := true, apart := false, narrowed := true }
def FnFactSetsUptoSaid : Prop := fnFactSetsUptoRow.holds Try.pinned (OpenSpec.upto fnFactSetsSpec)

/-- 'laws.FnFactOrder', WHERE WHAT IT READS IS OF BULK AT MOST 1048576: true; the input reads as it did. -/
def fnFactOrderUptoRow : OpenClaim := { program := "ytamcaplpgmloiaa", sum := "60033c137b23b7d8900f7e64cf5af83e1e33076cd65d084899af4737b25334ca", func := "loop.example/g03015/laws.FnFactOrder", spec := "fnFactOrder", unfollowed := true, recurses := true, apart := false, narrowed := true }
def FnFactOrderUptoSaid : Prop := fnFactOrderUptoRow.holds Try.pinned (OpenSpec.upto fnFactOrderSpec)

/-- 'laws.FnExactIsFact', WHERE WHAT IT READS IS OF BULK AT MOST 1048576: true; the input reads as it did. -/
def fnExactIsFactUptoRow : OpenClaim := { program := "ytamcaplpgmloiaa", sum := "60033c137b23b7d8900f7e64cf5af83e1e33076cd65d084899af4737b25334ca", func := "loop.example/g03015/laws.FnExactIsFact", spec := "fnExactIsFact", apart := false, narrowed := true }
def FnExactIsFactUptoSaid : Prop := fnExactIsFactUptoRow.holds Try.pinned (OpenSpec.upto fnExactIsFactSpec)

/-- 'laws.FnExactCompareFacts', WHERE WHAT IT READS IS OF BULK AT MOST 1048576: true; the input reads as it did. -/
def fnExactCompareFactsUptoRow : OpenClaim := { program := "ytamcaplpgmloiaa", sum := "60033c137b23b7d8900f7e64cf5af83e1e33076cd65d084899af4737b25334ca", func := "loop.example/g03015/laws.FnExactCompareFacts", spec := "fnExactCompareFacts", unfollowed := true, recurses := true, apart := false, narrowed := true }
def FnExactCompareFactsUptoSaid : Prop := fnExactCompareFactsUptoRow.holds Try.pinned (OpenSpec.upto fnExactCompareFactsSpec)

/-- 'laws.FnExactFormatFact', WHERE WHAT IT READS IS OF BULK AT MOST 1048576: true; the input reads as it did. -/
def fnExactFormatFactUptoRow : OpenClaim := { program := "ytamcaplpgmloiaa", sum := "60033c137b23b7d8900f7e64cf5af83e1e33076cd65d084899af4737b25334ca", func := "loop.example/g03015/laws.FnExactFormatFact", spec := "fnExactFormatFact", inPlace := ["internal/abi.NoEscape", "internal/bytealg.MakeNoZero"], apart := false, narrowed := true }
def FnExactFormatFactUptoSaid : Prop := fnExactFormatFactUptoRow.holds Try.pinned (OpenSpec.upto fnExactFormatFactSpec)

/-- 'laws.FnExactAreFacts', WHERE WHAT IT READS IS OF BULK AT MOST 1048576: true; the input reads as it did. -/
def fnExactAreFactsUptoRow : OpenClaim := { program := "ytamcaplpgmloiaa", sum := "60033c137b23b7d8900f7e64cf5af83e1e33076cd65d084899af4737b25334ca", func := "loop.example/g03015/laws.FnExactAreFacts", spec := "fnExactAreFacts", unfollowed := true, recurses := true, apart := false, narrowed := true }
def FnExactAreFactsUptoSaid : Prop := fnExactAreFactsUptoRow.holds Try.pinned (OpenSpec.upto fnExactAreFactsSpec)

/-- 'laws.FnExactFindFact', WHERE WHAT IT READS IS OF BULK AT MOST 1048576: true; the input reads as it did. -/
def fnExactFindFactUptoRow : OpenClaim := { program := "ytamcaplpgmloiaa", sum := "60033c137b23b7d8900f7e64cf5af83e1e33076cd65d084899af4737b25334ca", func := "loop.example/g03015/laws.FnExactFindFact", spec := "fnExactFindFact", apart := false, narrowed := true }
def FnExactFindFactUptoSaid : Prop := fnExactFindFactUptoRow.holds Try.pinned (OpenSpec.upto fnExactFindFactSpec)

/-- 'laws.FnExactAddFact', WHERE WHAT IT READS IS OF BULK AT MOST 1048576: true; the input reads as it did. -/
def fnExactAddFactUptoRow : OpenClaim := { program := "ytamcaplpgmloiaa", sum := "60033c137b23b7d8900f7e64cf5af83e1e33076cd65d084899af4737b25334ca", func := "loop.example/g03015/laws.FnExactAddFact", spec := "fnExactAddFact", unfollowed := true, recurses := true, apart := false, narrowed := true }
def FnExactAddFactUptoSaid : Prop := fnExactAddFactUptoRow.holds Try.pinned (OpenSpec.upto fnExactAddFactSpec)

/-- 'laws.FnExactRemoveFact', WHERE WHAT IT READS IS OF BULK AT MOST 1048576: true; the input reads as it did. -/
def fnExactRemoveFactUptoRow : OpenClaim := { program := "ytamcaplpgmloiaa", sum := "60033c137b23b7d8900f7e64cf5af83e1e33076cd65d084899af4737b25334ca", func := "loop.example/g03015/laws.FnExactRemoveFact", spec := "fnExactRemoveFact", unfollowed := true, recurses := true, apart := false, narrowed := true }
def FnExactRemoveFactUptoSaid : Prop := fnExactRemoveFactUptoRow.holds Try.pinned (OpenSpec.upto fnExactRemoveFactSpec)

/-- 'laws.FnExactSameFacts', WHERE WHAT IT READS IS OF BULK AT MOST 1048576: true; the input reads as it did. -/
def fnExactSameFactsUptoRow : OpenClaim := { program := "ytamcaplpgmloiaa", sum := "60033c137b23b7d8900f7e64cf5af83e1e33076cd65d084899af4737b25334ca", func := "loop.example/g03015/laws.FnExactSameFacts", spec := "fnExactSameFacts", unfollowed := true, recurses := true, apart := false, narrowed := true }
def FnExactSameFactsUptoSaid : Prop := fnExactSameFactsUptoRow.holds Try.pinned (OpenSpec.upto fnExactSameFactsSpec)

/-- 'laws.FnExactFactsWith', WHERE WHAT IT READS IS OF BULK AT MOST 1048576: true; the input reads as it did. -/
def fnExactFactsWithUptoRow : OpenClaim := { program := "ytamcaplpgmloiaa", sum := "60033c137b23b7d8900f7e64cf5af83e1e33076cd65d084899af4737b25334ca", func := "loop.example/g03015/laws.FnExactFactsWith", spec := "fnExactFactsWith", apart := false, narrowed := true }
def FnExactFactsWithUptoSaid : Prop := fnExactFactsWithUptoRow.holds Try.pinned (OpenSpec.upto fnExactFactsWithSpec)

/-- 'laws.FnExactFormatFacts', WHERE WHAT IT READS IS OF BULK AT MOST 1048576: true; the input reads as it did. -/
def fnExactFormatFactsUptoRow : OpenClaim := { program := "ytamcaplpgmloiaa", sum := "60033c137b23b7d8900f7e64cf5af83e1e33076cd65d084899af4737b25334ca", func := "loop.example/g03015/laws.FnExactFormatFacts", spec := "fnExactFormatFacts", inPlace := ["internal/abi.NoEscape", "internal/bytealg.MakeNoZero"], apart := false, narrowed := true }
def FnExactFormatFactsUptoSaid : Prop := fnExactFormatFactsUptoRow.holds Try.pinned (OpenSpec.upto fnExactFormatFactsSpec)

end Rows
end Go.Proofs.Ytamcaplpgmloiaa
