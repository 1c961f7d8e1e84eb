/-
  No cell of these rows narrows 'for every input' (looked for: loops, veiled, ifaces, maps, wideKeys, modest, calm, conditions, laid).
  DERIVED. THE GIVEN ROWS OF THIS SEAT. 8 by the template 'for every input the law returns true; each argument reads behind the call as it read before'; 0 by the template 'total and deterministic' (their statements: YtplfkocigmnpmaaTotals.lean).
  GIVEN WITH THE SEED: the statements are not yours to turn. If you find one false, say at which input.
  Laid BY PROGRAM, IN A SANDBOX (cutbox-rows.mjs): the forced cells as the released guide's own fill.sh prints them over the translation d274b06adfcd62fa… (all of the seat's roots in one cut). By AI agents, Wed Nov 11 2026. No macro, syntax, notation, axiom, sorry.
-/
import Derived.Test.YtplfkocigmnpmaaChecked
import GoSem.Claim
import GoSem.ClaimJoined
import GoSem.ClaimMapViews
import Derived.JoinedTies
import Derived.KernelRfl
namespace Go.Proofs.Ytplfkocigmnpmaa
/- THE CELL 'sum', in the pinned program and in every row, IS THE sha256 OF THE DUMP (.gsa) THAT YtplfkocigmnpmaaProg.lean LOADS. Nothing in Lean hashes anything: it is a label: what it is worth is what the hold of that sum in a sandbox is worth. -/
noncomputable def Try.pinned : Pinned := { name := "ytplfkocigmnpmaa", sum := "d274b06adfcd62faa5a78298dfd89a6909e627fda93260c6e4cf02451227e4ae", checked := Try.checked }
namespace Rows
def none {H : Type} : Left H := { results := [], args := [] }

/-- 'laws.FnFalling': WHATEVER THE INPUT: true; the input reads as it did. -/
def fnFallingSpec : ChangeSpec := { name := "fnFalling", fn := fun _ => fun
  | [d] => { results := [.lit (.bool true)], args := [d] }
  | _ => none }
def fnFallingRow : OpenClaim := { program := "ytplfkocigmnpmaa", sum := "d274b06adfcd62faa5a78298dfd89a6909e627fda93260c6e4cf02451227e4ae", func := "loop.example/g03015/laws.FnFalling", spec := "fnFalling", unfollowed := true, recurses := true, apart := false }
def FnFallingSaid : Prop := fnFallingRow.holds Try.pinned (OpenSpec.ofChange fnFallingSpec)

/-- ITS FALSE NEIGHBOUR: 'it returns false'. Refute it at one input. -/
def fnFallingWrong : ChangeSpec := { name := "fnFalling", fn := fun _ => fun
  | [d] => { results := [.lit (.bool false)], args := [d] }
  | _ => none }
def FnFallingWrongFalsely : Prop := fnFallingRow.holds Try.pinned (OpenSpec.ofChange fnFallingWrong)

/-- 'laws.FnExactFactsIn': WHATEVER THE INPUT: true; the input reads as it did. -/
def fnExactFactsInSpec : ChangeSpec := { name := "fnExactFactsIn", fn := fun _ => fun
  | [d] => { results := [.lit (.bool true)], args := [d] }
  | _ => none }
def fnExactFactsInRow : OpenClaim := { program := "ytplfkocigmnpmaa", sum := "d274b06adfcd62faa5a78298dfd89a6909e627fda93260c6e4cf02451227e4ae", func := "loop.example/g03015/laws.FnExactFactsIn", spec := "fnExactFactsIn", apart := false }
def FnExactFactsInSaid : Prop := fnExactFactsInRow.holds Try.pinned (OpenSpec.ofChange fnExactFactsInSpec)

/-- ITS FALSE NEIGHBOUR: 'it returns false'. Refute it at one input. -/
def fnExactFactsInWrong : ChangeSpec := { name := "fnExactFactsIn", fn := fun _ => fun
  | [d] => { results := [.lit (.bool false)], args := [d] }
  | _ => none }
def FnExactFactsInWrongFalsely : Prop := fnExactFactsInRow.holds Try.pinned (OpenSpec.ofChange fnExactFactsInWrong)

/-- 'laws.FnExactIsMemory': WHATEVER THE INPUT: true; the input reads as it did. -/
def fnExactIsMemorySpec : ChangeSpec := { name := "fnExactIsMemory", fn := fun _ => fun
  | [d] => { results := [.lit (.bool true)], args := [d] }
  | _ => none }
def fnExactIsMemoryRow : OpenClaim := { program := "ytplfkocigmnpmaa", sum := "d274b06adfcd62faa5a78298dfd89a6909e627fda93260c6e4cf02451227e4ae", func := "loop.example/g03015/laws.FnExactIsMemory", spec := "fnExactIsMemory", unfollowed := true, recurses := true, apart := false }
def FnExactIsMemorySaid : Prop := fnExactIsMemoryRow.holds Try.pinned (OpenSpec.ofChange fnExactIsMemorySpec)

/-- ITS FALSE NEIGHBOUR: 'it returns false'. Refute it at one input. -/
def fnExactIsMemoryWrong : ChangeSpec := { name := "fnExactIsMemory", fn := fun _ => fun
  | [d] => { results := [.lit (.bool false)], args := [d] }
  | _ => none }
def FnExactIsMemoryWrongFalsely : Prop := fnExactIsMemoryRow.holds Try.pinned (OpenSpec.ofChange fnExactIsMemoryWrong)

/-- 'laws.FnExactTimeOf': WHATEVER THE INPUT: true; the input reads as it did. -/
def fnExactTimeOfSpec : ChangeSpec := { name := "fnExactTimeOf", fn := fun _ => fun
  | [d1, d2] => { results := [.lit (.bool true)], args := [d1, d2] }
  | _ => none }
def fnExactTimeOfRow : OpenClaim := { program := "ytplfkocigmnpmaa", sum := "d274b06adfcd62faa5a78298dfd89a6909e627fda93260c6e4cf02451227e4ae", func := "loop.example/g03015/laws.FnExactTimeOf", spec := "fnExactTimeOf", apart := false }
def FnExactTimeOfSaid : Prop := fnExactTimeOfRow.holds Try.pinned (OpenSpec.ofChange fnExactTimeOfSpec)

/-- ITS FALSE NEIGHBOUR: 'it returns false'. Refute it at one input. -/
def fnExactTimeOfWrong : ChangeSpec := { name := "fnExactTimeOf", fn := fun _ => fun
  | [d1, d2] => { results := [.lit (.bool false)], args := [d1, d2] }
  | _ => none }
def FnExactTimeOfWrongFalsely : Prop := fnExactTimeOfRow.holds Try.pinned (OpenSpec.ofChange fnExactTimeOfWrong)

/-- 'laws.FnExactTimesOf': WHATEVER THE INPUT: true; the input reads as it did. -/
def fnExactTimesOfSpec : ChangeSpec := { name := "fnExactTimesOf", fn := fun _ => fun
  | [d1, d2] => { results := [.lit (.bool true)], args := [d1, d2] }
  | _ => none }
def fnExactTimesOfRow : OpenClaim := { program := "ytplfkocigmnpmaa", sum := "d274b06adfcd62faa5a78298dfd89a6909e627fda93260c6e4cf02451227e4ae", func := "loop.example/g03015/laws.FnExactTimesOf", spec := "fnExactTimesOf", apart := false }
def FnExactTimesOfSaid : Prop := fnExactTimesOfRow.holds Try.pinned (OpenSpec.ofChange fnExactTimesOfSpec)

/-- ITS FALSE NEIGHBOUR: 'it returns false'. Refute it at one input. -/
def fnExactTimesOfWrong : ChangeSpec := { name := "fnExactTimesOf", fn := fun _ => fun
  | [d1, d2] => { results := [.lit (.bool false)], args := [d1, d2] }
  | _ => none }
def FnExactTimesOfWrongFalsely : Prop := fnExactTimesOfRow.holds Try.pinned (OpenSpec.ofChange fnExactTimesOfWrong)

/-- 'laws.FnExactFalling': WHATEVER THE INPUT: true; the input reads as it did. -/
def fnExactFallingSpec : ChangeSpec := { name := "fnExactFalling", fn := fun _ => fun
  | [d] => { results := [.lit (.bool true)], args := [d] }
  | _ => none }
def fnExactFallingRow : OpenClaim := { program := "ytplfkocigmnpmaa", sum := "d274b06adfcd62faa5a78298dfd89a6909e627fda93260c6e4cf02451227e4ae", func := "loop.example/g03015/laws.FnExactFalling", spec := "fnExactFalling", unfollowed := true, recurses := true, apart := false }
def FnExactFallingSaid : Prop := fnExactFallingRow.holds Try.pinned (OpenSpec.ofChange fnExactFallingSpec)

/-- ITS FALSE NEIGHBOUR: 'it returns false'. Refute it at one input. -/
def fnExactFallingWrong : ChangeSpec := { name := "fnExactFalling", fn := fun _ => fun
  | [d] => { results := [.lit (.bool false)], args := [d] }
  | _ => none }
def FnExactFallingWrongFalsely : Prop := fnExactFallingRow.holds Try.pinned (OpenSpec.ofChange fnExactFallingWrong)

/-- 'laws.FnExactCompareChoices': WHATEVER THE INPUT: true; the input reads as it did. -/
def fnExactCompareChoicesSpec : ChangeSpec := { name := "fnExactCompareChoices", fn := fun _ => fun
  | [d1, d2] => { results := [.lit (.bool true)], args := [d1, d2] }
  | _ => none }
def fnExactCompareChoicesRow : OpenClaim := { program := "ytplfkocigmnpmaa", sum := "d274b06adfcd62faa5a78298dfd89a6909e627fda93260c6e4cf02451227e4ae", func := "loop.example/g03015/laws.FnExactCompareChoices", spec := "fnExactCompareChoices", unfollowed := true, recurses := true, apart := false }
def FnExactCompareChoicesSaid : Prop := fnExactCompareChoicesRow.holds Try.pinned (OpenSpec.ofChange fnExactCompareChoicesSpec)

/-- ITS FALSE NEIGHBOUR: 'it returns false'. Refute it at one input. -/
def fnExactCompareChoicesWrong : ChangeSpec := { name := "fnExactCompareChoices", fn := fun _ => fun
  | [d1, d2] => { results := [.lit (.bool false)], args := [d1, d2] }
  | _ => none }
def FnExactCompareChoicesWrongFalsely : Prop := fnExactCompareChoicesRow.holds Try.pinned (OpenSpec.ofChange fnExactCompareChoicesWrong)

/-- 'laws.FnExactHasFired': WHATEVER THE INPUT: true; the input reads as it did. -/
def fnExactHasFiredSpec : ChangeSpec := { name := "fnExactHasFired", fn := fun _ => fun
  | [d1, d2] => { results := [.lit (.bool true)], args := [d1, d2] }
  | _ => none }
def fnExactHasFiredRow : OpenClaim := { program := "ytplfkocigmnpmaa", sum := "d274b06adfcd62faa5a78298dfd89a6909e627fda93260c6e4cf02451227e4ae", func := "loop.example/g03015/laws.FnExactHasFired", spec := "fnExactHasFired", unfollowed := true, recurses := true, apart := false }
def FnExactHasFiredSaid : Prop := fnExactHasFiredRow.holds Try.pinned (OpenSpec.ofChange fnExactHasFiredSpec)

/-- ITS FALSE NEIGHBOUR: 'it returns false'. Refute it at one input. -/
def fnExactHasFiredWrong : ChangeSpec := { name := "fnExactHasFired", fn := fun _ => fun
  | [d1, d2] => { results := [.lit (.bool false)], args := [d1, d2] }
  | _ => none }
def FnExactHasFiredWrongFalsely : Prop := fnExactHasFiredRow.holds Try.pinned (OpenSpec.ofChange fnExactHasFiredWrong)

/- THE SECOND FORM. 'bulk': how many values and letters a reading holds, each counted each time it is reached (what is shared counts as often as it is met; a slice's spare places count too). A statement '..UptoSaid' is the law's where the arguments, and the package variables that the reading takes, are together of bulk at most 1048576: NARROWER than '..Said'. Prove '..Said' where nothing that the law and all that it calls make is longer than what came in: it says more and counts as full. Else prove '..UptoSaid'. A law counts once. -/
mutual
def uptoBulk {H : Type} : DataW H → Nat
  | .lit (.string bytes) => bytes.length + 1
  | .lit _ => 1
  | .nil => 1
  | .ptr d => uptoBulk d + 1
  | .slice elems spare => uptoBulkAll elems + uptoBulkAll spare + 1
  | .agg parts => uptoBulkAll parts + 1
  | .iface _ d => uptoBulk d + 1
  | .map entries => uptoBulkEntries entries + 1
  | .held _ => 1
def uptoBulkAll {H : Type} : List (DataW H) → Nat
  | [] => 0
  | d :: r => uptoBulk d + uptoBulkAll r
def uptoBulkEntries {H : Type} : List (Lit × DataW H) → Nat
  | [] => 0
  | x :: r => uptoBulkEntry x + uptoBulkEntries r
def uptoBulkEntry {H : Type} : Lit × DataW H → Nat
  | (.string bytes, d) => bytes.length + uptoBulk d + 1
  | (_, d) => uptoBulk d + 1
 end
def uptoSmall : (H : Type) → List (DataW H) → Bool := fun _ ds => decide (uptoBulkAll ds ≤ 1048576)
def OpenSpec.upto (s : _root_.Go.ChangeSpec) : _root_.Go.OpenSpec := { _root_.Go.OpenSpec.ofChange s with cond := some uptoSmall }

/-- 'laws.FnFalling', WHERE WHAT IT READS IS OF BULK AT MOST 1048576: true; the input reads as it did. -/
def fnFallingUptoRow : OpenClaim := { program := "ytplfkocigmnpmaa", sum := "d274b06adfcd62faa5a78298dfd89a6909e627fda93260c6e4cf02451227e4ae", func := "loop.example/g03015/laws.FnFalling", spec := "fnFalling", unfollowed := true, recurses := true, apart := false, narrowed := true }
def FnFallingUptoSaid : Prop := fnFallingUptoRow.holds Try.pinned (OpenSpec.upto fnFallingSpec)

/-- 'laws.FnExactFactsIn', WHERE WHAT IT READS IS OF BULK AT MOST 1048576: true; the input reads as it did. -/
def fnExactFactsInUptoRow : OpenClaim := { program := "ytplfkocigmnpmaa", sum := "d274b06adfcd62faa5a78298dfd89a6909e627fda93260c6e4cf02451227e4ae", func := "loop.example/g03015/laws.FnExactFactsIn", spec := "fnExactFactsIn", apart := false, narrowed := true }
def FnExactFactsInUptoSaid : Prop := fnExactFactsInUptoRow.holds Try.pinned (OpenSpec.upto fnExactFactsInSpec)

/-- 'laws.FnExactIsMemory', WHERE WHAT IT READS IS OF BULK AT MOST 1048576: true; the input reads as it did. -/
def fnExactIsMemoryUptoRow : OpenClaim := { program := "ytplfkocigmnpmaa", sum := "d274b06adfcd62faa5a78298dfd89a6909e627fda93260c6e4cf02451227e4ae", func := "loop.example/g03015/laws.FnExactIsMemory", spec := "fnExactIsMemory", unfollowed := true, recurses := true, apart := false, narrowed := true }
def FnExactIsMemoryUptoSaid : Prop := fnExactIsMemoryUptoRow.holds Try.pinned (OpenSpec.upto fnExactIsMemorySpec)

/-- 'laws.FnExactTimeOf', WHERE WHAT IT READS IS OF BULK AT MOST 1048576: true; the input reads as it did. -/
def fnExactTimeOfUptoRow : OpenClaim := { program := "ytplfkocigmnpmaa", sum := "d274b06adfcd62faa5a78298dfd89a6909e627fda93260c6e4cf02451227e4ae", func := "loop.example/g03015/laws.FnExactTimeOf", spec := "fnExactTimeOf", apart := false, narrowed := true }
def FnExactTimeOfUptoSaid : Prop := fnExactTimeOfUptoRow.holds Try.pinned (OpenSpec.upto fnExactTimeOfSpec)

/-- 'laws.FnExactTimesOf', WHERE WHAT IT READS IS OF BULK AT MOST 1048576: true; the input reads as it did. -/
def fnExactTimesOfUptoRow : OpenClaim := { program := "ytplfkocigmnpmaa", sum := "d274b06adfcd62faa5a78298dfd89a6909e627fda93260c6e4cf02451227e4ae", func := "loop.example/g03015/laws.FnExactTimesOf", spec := "fnExactTimesOf", apart := false, narrowed := true }
def FnExactTimesOfUptoSaid : Prop := fnExactTimesOfUptoRow.holds Try.pinned (OpenSpec.upto fnExactTimesOfSpec)

/-- 'laws.FnExactFalling', WHERE WHAT IT READS IS OF BULK AT MOST 1048576: true; the input reads as it did. -/
def fnExactFallingUptoRow : OpenClaim := { program := "ytplfkocigmnpmaa", sum := "d274b06adfcd62faa5a78298dfd89a6909e627fda93260c6e4cf02451227e4ae", func := "loop.example/g03015/laws.FnExactFalling", spec := "fnExactFalling", unfollowed := true, recurses := true, apart := false, narrowed := true }
def FnExactFallingUptoSaid : Prop := fnExactFallingUptoRow.holds Try.pinned (OpenSpec.upto fnExactFallingSpec)

/-- 'laws.FnExactCompareChoices', WHERE WHAT IT READS IS OF BULK AT MOST 1048576: true; the input reads as it did. -/
def fnExactCompareChoicesUptoRow : OpenClaim := { program := "ytplfkocigmnpmaa", sum := "d274b06adfcd62faa5a78298dfd89a6909e627fda93260c6e4cf02451227e4ae", func := "loop.example/g03015/laws.FnExactCompareChoices", spec := "fnExactCompareChoices", unfollowed := true, recurses := true, apart := false, narrowed := true }
def FnExactCompareChoicesUptoSaid : Prop := fnExactCompareChoicesUptoRow.holds Try.pinned (OpenSpec.upto fnExactCompareChoicesSpec)

/-- 'laws.FnExactHasFired', WHERE WHAT IT READS IS OF BULK AT MOST 1048576: true; the input reads as it did. -/
def fnExactHasFiredUptoRow : OpenClaim := { program := "ytplfkocigmnpmaa", sum := "d274b06adfcd62faa5a78298dfd89a6909e627fda93260c6e4cf02451227e4ae", func := "loop.example/g03015/laws.FnExactHasFired", spec := "fnExactHasFired", unfollowed := true, recurses := true, apart := false, narrowed := true }
def FnExactHasFiredUptoSaid : Prop := fnExactHasFiredUptoRow.holds Try.pinned (OpenSpec.upto fnExactHasFiredSpec)

end Rows
end Go.Proofs.Ytplfkocigmnpmaa
