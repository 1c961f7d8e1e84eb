/-
  No cell of these rows narrows 'for every input' (looked for: loops, veiled, ifaces, maps, wideKeys, modest, calm, conditions, laid).
  DERIVED. THE GIVEN ROWS OF THIS SEAT. 6 by the template 'for every input the law returns true; each argument reads behind the call as it read before'; 0 by the template 'total and deterministic' (their statements: YtoindmahilbalaaGreatTotals.lean).
  GIVEN WITH THE SEED: the statements are not yours to turn. If you find one false, say at which input.
  Laid BY PROGRAM, IN A SANDBOX (cutbox-rows.mjs): the forced cells as the released guide's own fill.sh prints them over the translation b45cf500cdad7c92… (all of the seat's roots in one cut). By AI agents, Wed Nov 11 2026. No macro, syntax, notation, axiom, sorry.
-/
import Derived.Test.YtoindmahilbalaaGreatChecked
import GoSem.Claim
import GoSem.ClaimJoined
import GoSem.ClaimMapViews
import Derived.JoinedTies
import Derived.KernelRfl
namespace Go.Proofs.YtoindmahilbalaaGreat
/- THE CELL 'sum', in the pinned program and in every row, IS THE sha256 OF THE DUMP (.gsa) THAT YtoindmahilbalaaGreatProg.lean LOADS. Nothing in Lean hashes anything: it is a label: what it is worth is what the hold of that sum in a sandbox is worth. -/
noncomputable def Tryz.pinned : Pinned := { name := "ytoindmahilbalaagreat", sum := "b45cf500cdad7c928b30965a86a09afd248ee7215ebc41fc964a48d10f2f2156", checked := Tryz.checked }
namespace Rows
def none {H : Type} : Left H := { results := [], args := [] }

/-- 'laws.FnExactTokensOf': WHATEVER THE INPUT: true; the input reads as it did. -/
def fnExactTokensOfSpec : ChangeSpec := { name := "fnExactTokensOf", fn := fun _ => fun
  | [d1, d2, d3] => { results := [.lit (.bool true)], args := [d1, d2, d3] }
  | _ => none }
def fnExactTokensOfRow : OpenClaim := { program := "ytoindmahilbalaagreat", sum := "b45cf500cdad7c928b30965a86a09afd248ee7215ebc41fc964a48d10f2f2156", func := "loop.example/g03015/laws.FnExactTokensOf", spec := "fnExactTokensOf", unfollowed := true, recurses := true, apart := false }
def FnExactTokensOfSaid : Prop := fnExactTokensOfRow.holds Tryz.pinned (OpenSpec.ofChange fnExactTokensOfSpec)

/-- ITS FALSE NEIGHBOUR: 'it returns false'. Refute it at one input. -/
def fnExactTokensOfWrong : ChangeSpec := { name := "fnExactTokensOf", fn := fun _ => fun
  | [d1, d2, d3] => { results := [.lit (.bool false)], args := [d1, d2, d3] }
  | _ => none }
def FnExactTokensOfWrongFalsely : Prop := fnExactTokensOfRow.holds Tryz.pinned (OpenSpec.ofChange fnExactTokensOfWrong)

/-- 'laws.FnExactMatchesOf': WHATEVER THE INPUT: true; the input reads as it did. -/
def fnExactMatchesOfSpec : ChangeSpec := { name := "fnExactMatchesOf", fn := fun _ => fun
  | [d1, d2] => { results := [.lit (.bool true)], args := [d1, d2] }
  | _ => none }
def fnExactMatchesOfRow : OpenClaim := { program := "ytoindmahilbalaagreat", sum := "b45cf500cdad7c928b30965a86a09afd248ee7215ebc41fc964a48d10f2f2156", func := "loop.example/g03015/laws.FnExactMatchesOf", spec := "fnExactMatchesOf", unfollowed := true, recurses := true, apart := false }
def FnExactMatchesOfSaid : Prop := fnExactMatchesOfRow.holds Tryz.pinned (OpenSpec.ofChange fnExactMatchesOfSpec)

/-- ITS FALSE NEIGHBOUR: 'it returns false'. Refute it at one input. -/
def fnExactMatchesOfWrong : ChangeSpec := { name := "fnExactMatchesOf", fn := fun _ => fun
  | [d1, d2] => { results := [.lit (.bool false)], args := [d1, d2] }
  | _ => none }
def FnExactMatchesOfWrongFalsely : Prop := fnExactMatchesOfRow.holds Tryz.pinned (OpenSpec.ofChange fnExactMatchesOfWrong)

/-- 'laws.FnExactAllMatches': WHATEVER THE INPUT: true; the input reads as it did. -/
def fnExactAllMatchesSpec : ChangeSpec := { name := "fnExactAllMatches", fn := fun _ => fun
  | [d1, d2] => { results := [.lit (.bool true)], args := [d1, d2] }
  | _ => none }
def fnExactAllMatchesRow : OpenClaim := { program := "ytoindmahilbalaagreat", sum := "b45cf500cdad7c928b30965a86a09afd248ee7215ebc41fc964a48d10f2f2156", func := "loop.example/g03015/laws.FnExactAllMatches", spec := "fnExactAllMatches", unfollowed := true, recurses := true, apart := false }
def FnExactAllMatchesSaid : Prop := fnExactAllMatchesRow.holds Tryz.pinned (OpenSpec.ofChange fnExactAllMatchesSpec)

/-- ITS FALSE NEIGHBOUR: 'it returns false'. Refute it at one input. -/
def fnExactAllMatchesWrong : ChangeSpec := { name := "fnExactAllMatches", fn := fun _ => fun
  | [d1, d2] => { results := [.lit (.bool false)], args := [d1, d2] }
  | _ => none }
def FnExactAllMatchesWrongFalsely : Prop := fnExactAllMatchesRow.holds Tryz.pinned (OpenSpec.ofChange fnExactAllMatchesWrong)

/-- 'laws.FnExactIsMatch': WHATEVER THE INPUT: true; the input reads as it did. -/
def fnExactIsMatchSpec : ChangeSpec := { name := "fnExactIsMatch", fn := fun _ => fun
  | [d1, d2, d3] => { results := [.lit (.bool true)], args := [d1, d2, d3] }
  | _ => none }
def fnExactIsMatchRow : OpenClaim := { program := "ytoindmahilbalaagreat", sum := "b45cf500cdad7c928b30965a86a09afd248ee7215ebc41fc964a48d10f2f2156", func := "loop.example/g03015/laws.FnExactIsMatch", spec := "fnExactIsMatch", unfollowed := true, recurses := true, apart := false }
def FnExactIsMatchSaid : Prop := fnExactIsMatchRow.holds Tryz.pinned (OpenSpec.ofChange fnExactIsMatchSpec)

/-- ITS FALSE NEIGHBOUR: 'it returns false'. Refute it at one input. -/
def fnExactIsMatchWrong : ChangeSpec := { name := "fnExactIsMatch", fn := fun _ => fun
  | [d1, d2, d3] => { results := [.lit (.bool false)], args := [d1, d2, d3] }
  | _ => none }
def FnExactIsMatchWrongFalsely : Prop := fnExactIsMatchRow.holds Tryz.pinned (OpenSpec.ofChange fnExactIsMatchWrong)

/-- 'laws.FnExactDeepestCond': WHATEVER THE INPUT: true; the input reads as it did. -/
def fnExactDeepestCondSpec : ChangeSpec := { name := "fnExactDeepestCond", fn := fun _ => fun
  | [d1, d2] => { results := [.lit (.bool true)], args := [d1, d2] }
  | _ => none }
def fnExactDeepestCondRow : OpenClaim := { program := "ytoindmahilbalaagreat", sum := "b45cf500cdad7c928b30965a86a09afd248ee7215ebc41fc964a48d10f2f2156", func := "loop.example/g03015/laws.FnExactDeepestCond", spec := "fnExactDeepestCond", unfollowed := true, recurses := true, apart := false }
def FnExactDeepestCondSaid : Prop := fnExactDeepestCondRow.holds Tryz.pinned (OpenSpec.ofChange fnExactDeepestCondSpec)

/-- ITS FALSE NEIGHBOUR: 'it returns false'. Refute it at one input. -/
def fnExactDeepestCondWrong : ChangeSpec := { name := "fnExactDeepestCond", fn := fun _ => fun
  | [d1, d2] => { results := [.lit (.bool false)], args := [d1, d2] }
  | _ => none }
def FnExactDeepestCondWrongFalsely : Prop := fnExactDeepestCondRow.holds Tryz.pinned (OpenSpec.ofChange fnExactDeepestCondWrong)

/-- 'laws.FnExactTokenCounts': WHATEVER THE INPUT: true; the input reads as it did. -/
def fnExactTokenCountsSpec : ChangeSpec := { name := "fnExactTokenCounts", fn := fun _ => fun
  | [d1, d2] => { results := [.lit (.bool true)], args := [d1, d2] }
  | _ => none }
def fnExactTokenCountsRow : OpenClaim := { program := "ytoindmahilbalaagreat", sum := "b45cf500cdad7c928b30965a86a09afd248ee7215ebc41fc964a48d10f2f2156", func := "loop.example/g03015/laws.FnExactTokenCounts", spec := "fnExactTokenCounts", unfollowed := true, recurses := true, apart := false }
def FnExactTokenCountsSaid : Prop := fnExactTokenCountsRow.holds Tryz.pinned (OpenSpec.ofChange fnExactTokenCountsSpec)

/-- ITS FALSE NEIGHBOUR: 'it returns false'. Refute it at one input. -/
def fnExactTokenCountsWrong : ChangeSpec := { name := "fnExactTokenCounts", fn := fun _ => fun
  | [d1, d2] => { results := [.lit (.bool false)], args := [d1, d2] }
  | _ => none }
def FnExactTokenCountsWrongFalsely : Prop := fnExactTokenCountsRow.holds Tryz.pinned (OpenSpec.ofChange fnExactTokenCountsWrong)

/- THE SECOND FORM. 'bulk': how many values and letters a reading holds, each counted each time it is reached (what is shared counts as often as it is met; a slice's spare places count too). A statement '..UptoSaid' is the law's where the arguments, and the package variables that the reading takes, are together of bulk at most 1048576: NARROWER than '..Said'. Prove '..Said' where nothing that the law and all that it calls make is longer than what came in: it says more and counts as full. Else prove '..UptoSaid'. A law counts once. -/
mutual
def uptoBulk {H : Type} : DataW H → Nat
  | .lit (.string bytes) => bytes.length + 1
  | .lit _ => 1
  | .nil => 1
  | .ptr d => uptoBulk d + 1
  | .slice elems spare => uptoBulkAll elems + uptoBulkAll spare + 1
  | .agg parts => uptoBulkAll parts + 1
  | .iface _ d => uptoBulk d + 1
  | .map entries => uptoBulkEntries entries + 1
  | .held _ => 1
def uptoBulkAll {H : Type} : List (DataW H) → Nat
  | [] => 0
  | d :: r => uptoBulk d + uptoBulkAll r
def uptoBulkEntries {H : Type} : List (Lit × DataW H) → Nat
  | [] => 0
  | x :: r => uptoBulkEntry x + uptoBulkEntries r
def uptoBulkEntry {H : Type} : Lit × DataW H → Nat
  | (.string bytes, d) => bytes.length + uptoBulk d + 1
  | (_, d) => uptoBulk d + 1
 end
def uptoSmall : (H : Type) → List (DataW H) → Bool := fun _ ds => decide (uptoBulkAll ds ≤ 1048576)
def OpenSpec.upto (s : _root_.Go.ChangeSpec) : _root_.Go.OpenSpec := { _root_.Go.OpenSpec.ofChange s with cond := some uptoSmall }

/-- 'laws.FnExactTokensOf', WHERE WHAT IT READS IS OF BULK AT MOST 1048576: true; the input reads as it did. -/
def fnExactTokensOfUptoRow : OpenClaim := { program := "ytoindmahilbalaagreat", sum := "b45cf500cdad7c928b30965a86a09afd248ee7215ebc41fc964a48d10f2f2156", func := "loop.example/g03015/laws.FnExactTokensOf", spec := "fnExactTokensOf", unfollowed := true, recurses := true, apart := false, narrowed := true }
def FnExactTokensOfUptoSaid : Prop := fnExactTokensOfUptoRow.holds Tryz.pinned (OpenSpec.upto fnExactTokensOfSpec)

/-- 'laws.FnExactMatchesOf', WHERE WHAT IT READS IS OF BULK AT MOST 1048576: true; the input reads as it did. -/
def fnExactMatchesOfUptoRow : OpenClaim := { program := "ytoindmahilbalaagreat", sum := "b45cf500cdad7c928b30965a86a09afd248ee7215ebc41fc964a48d10f2f2156", func := "loop.example/g03015/laws.FnExactMatchesOf", spec := "fnExactMatchesOf", unfollowed := true, recurses := true, apart := false, narrowed := true }
def FnExactMatchesOfUptoSaid : Prop := fnExactMatchesOfUptoRow.holds Tryz.pinned (OpenSpec.upto fnExactMatchesOfSpec)

/-- 'laws.FnExactAllMatches', WHERE WHAT IT READS IS OF BULK AT MOST 1048576: true; the input reads as it did. -/
def fnExactAllMatchesUptoRow : OpenClaim := { program := "ytoindmahilbalaagreat", sum := "b45cf500cdad7c928b30965a86a09afd248ee7215ebc41fc964a48d10f2f2156", func := "loop.example/g03015/laws.FnExactAllMatches", spec := "fnExactAllMatches", unfollowed := true, recurses := true, apart := false, narrowed := true }
def FnExactAllMatchesUptoSaid : Prop := fnExactAllMatchesUptoRow.holds Tryz.pinned (OpenSpec.upto fnExactAllMatchesSpec)

/-- 'laws.FnExactIsMatch', WHERE WHAT IT READS IS OF BULK AT MOST 1048576: true; the input reads as it did. -/
def fnExactIsMatchUptoRow : OpenClaim := { program := "ytoindmahilbalaagreat", sum := "b45cf500cdad7c928b30965a86a09afd248ee7215ebc41fc964a48d10f2f2156", func := "loop.example/g03015/laws.FnExactIsMatch", spec := "fnExactIsMatch", unfollowed := true, recurses := true, apart := false, narrowed := true }
def FnExactIsMatchUptoSaid : Prop := fnExactIsMatchUptoRow.holds Tryz.pinned (OpenSpec.upto fnExactIsMatchSpec)

/-- 'laws.FnExactDeepestCond', WHERE WHAT IT READS IS OF BULK AT MOST 1048576: true; the input reads as it did. -/
def fnExactDeepestCondUptoRow : OpenClaim := { program := "ytoindmahilbalaagreat", sum := "b45cf500cdad7c928b30965a86a09afd248ee7215ebc41fc964a48d10f2f2156", func := "loop.example/g03015/laws.FnExactDeepestCond", spec := "fnExactDeepestCond", unfollowed := true, recurses := true, apart := false, narrowed := true }
def FnExactDeepestCondUptoSaid : Prop := fnExactDeepestCondUptoRow.holds Tryz.pinned (OpenSpec.upto fnExactDeepestCondSpec)

/-- 'laws.FnExactTokenCounts', WHERE WHAT IT READS IS OF BULK AT MOST 1048576: true; the input reads as it did. -/
def fnExactTokenCountsUptoRow : OpenClaim := { program := "ytoindmahilbalaagreat", sum := "b45cf500cdad7c928b30965a86a09afd248ee7215ebc41fc964a48d10f2f2156", func := "loop.example/g03015/laws.FnExactTokenCounts", spec := "fnExactTokenCounts", unfollowed := true, recurses := true, apart := false, narrowed := true }
def FnExactTokenCountsUptoSaid : Prop := fnExactTokenCountsUptoRow.holds Tryz.pinned (OpenSpec.upto fnExactTokenCountsSpec)

end Rows
end Go.Proofs.YtoindmahilbalaaGreat
